/-
  What is proved here: what the program's compareNeed answers.
-/
import Derived.Test.YtgfjbaigmkdbcaaU1
import Derived.Test.YtgfjbaigmkdbcaaTm
import Derived.Test.YtgfjbaigmkdbcaaC0s
namespace Go.Proofs.Ytgfjbaigmkdbcaa
open Go.RowKit
set_option maxRecDepth 100000
set_option maxHeartbeats 4000000

/-- A slice literal. -/
abbrev ksl (d : Nat) (t : TypeId) (cs : List Value) (m : Nat) : Kd := (some d, (fun l _ => .slice (some ⟨l, 0, none⟩) m m), fun l h w _ => Arr w l t cs ∧ l < h)
theorem ksl_keeps (d : Nat) (t : TypeId) (cs : List Value) (m : Nat) : Kd.keeps (ksl d t cs m) := fun _ _ _ _ _ h _ b => ⟨h.1.kept b, h.2⟩
theorem tsl {P : Program} {ev : Operand → Value} {o : Oper} {d m : Nat} {w : World} {X : Prop} {t : TypeId} {cs : List Value} (h : (execOp ev o).run P w = .ok (.value (.slice (some ⟨w.heap.size, 0, none⟩) m m)) (w.alloc (.cells cs.toArray t))) : Dty X (TOb P ev o (ksl d t cs m) w) := ⟨fun _ => by
  refine ⟨?_⟩
  unfold TObR
  rw [h]
  exact ⟨undef, rfl, (Below.refl _ _).alloc (Nat.le_refl _) _, Arr.new w cs t, by simp⟩⟩
def ndC (o f t k o' f' t' k' : Int) : Int := orL [cmpI o o', cmpI k k', cmpI f f', cmpI t t']
theorem ndC_neg (o f t k o' f' t' k' : Int) : ndC o f t k o' f' t' k' < 0 ↔ needLt o f t k o' f' t' k' := by
  unfold ndC orL
  have h1 := cmpI_zero o o'
  have h2 := cmpI_zero k k'
  have h3 := cmpI_zero f f'
  have h4 := cmpI_zero t t'
  have g1 := cmpI_neg o o'
  have g2 := cmpI_neg k k'
  have g3 := cmpI_neg f f'
  have g4 := cmpI_neg t t'
  generalize cmpI o o' = a at *
  generalize cmpI k k' = b at *
  generalize cmpI f f' = c at *
  generalize cmpI t t' = d at *
  by_cases ha : a = 0
  · by_cases hb : b = 0
    · by_cases hc : c = 0
      · by_cases hd : d = 0
        · simp [List.find?, ha, hb, hc, hd]; first | omega | (unfold needLt; omega)
        · have e : (d != 0) = true := by simpa using hd
          simp [List.find?, ha, hb, hc, e]; first | omega | (unfold needLt; omega)
      · have e : (c != 0) = true := by simpa using hc
        simp [List.find?, ha, hb, e]; first | omega | (unfold needLt; omega)
    · have e : (b != 0) = true := by simpa using hb
      simp [List.find?, ha, e]; first | omega | (unfold needLt; omega)
  · have e : (a != 0) = true := by simpa using ha
    simp [List.find?, e]; first | omega | (unfold needLt; omega)
theorem implCompareNeed (o f t k o' f' t' k' : Int) (w : World) :
    Calls Try.prog 89 #[.agg #[.int .i64 o, .int .i64 f, .int .i64 t, .int .i64 k], .agg #[.int .i64 o', .int .i64 f', .int .i64 t', .int .i64 k']] w fun e w' => e = .returned (.int .i64 (ndC o f t k o' f' t' k')) ∧ Below w.heap.size w w' := by
  obtain ⟨V, hV⟩ : ∃ V, V = (w.alloc (.cells #[.int .i64 o, .int .i64 f, .int .i64 t, .int .i64 k] 115)).alloc (.cells #[.int .i64 o', .int .i64 f', .int .i64 t', .int .i64 k'] 115) := ⟨_, rfl⟩
  have B : Below w.heap.size w V := by rw [hV]; exact ((Below.refl _ _).alloc (Nat.le_refl _) _).alloc (by simp) _
  have A0 : Arr V w.heap.size 115 [.int .i64 o, .int .i64 f, .int .i64 t, .int .i64 k] := by rw [hV]; exact (Arr.new _ _ _).alloc _
  have A1 : Arr V (w.heap.size + 1) 115 [.int .i64 o', .int .i64 f', .int .i64 t', .int .i64 k'] := by
    rw [hV]
    have := Arr.new (w.alloc (.cells #[.int .i64 o, .int .i64 f, .int .i64 t, .int .i64 k] 115)) [.int .i64 o', .int .i64 f', .int .i64 t', .int .i64 k'] 115
    simpa using this
  have HB : Hid _ := B
  have I1 : ∀ a b, -9223372036854775808 ≤ cmpI a b ∧ cmpI a b ≤ 9223372036854775807 := fun a b => by have := cmpI_int a b; omega
  clear B
  go_enter Try.func89, Try.ntmps89
  go_wp2
  rw [← hV]
  clear hV
  obtain ⟨X, hX⟩ : ∃ X, X = w.heap.size := ⟨_, rfl⟩
  rw [← hX] at A0 A1 ⊢
  clear hX
  have c0 := A0.cell 0
  have c1 := A0.cell 1
  have c2 := A0.cell 2
  have c3 := A0.cell 3
  have d0 := A1.cell 0
  have d1 := A1.cell 1
  have d2 := A1.cell 2
  have d3 := A1.cell 3
  simp at c0 c1 c2 c3 d0 d1 d2 d3
  have l0 := A0.lt
  have l1 := A1.lt
  try simp only [Act.put]
  refine tame [kc 5 (.pointer (some ⟨X, 0, none⟩)), kc 6 (.int .i64 o), kc 7 (.pointer (some ⟨X + 1, 0, none⟩)), kc 8 (.int .i64 o'), kc 9 (.int .i64 (cmpI o o')), kc 10 (.pointer (some ⟨X, 3, none⟩)), kc 11 (.int .i64 k), kc 12 (.pointer (some ⟨X + 1, 3, none⟩)), kc 13 (.int .i64 k'), kc 14 (.int .i64 (cmpI k k')), kc 15 (.pointer (some ⟨X, 1, none⟩)), kc 16 (.int .i64 f), kc 17 (.pointer (some ⟨X + 1, 1, none⟩)), kc 18 (.int .i64 f'), kc 19 (.int .i64 (cmpI f f')), kc 20 (.pointer (some ⟨X, 2, none⟩)), kc 21 (.int .i64 t), kc 22 (.pointer (some ⟨X + 1, 2, none⟩)), kc 23 (.int .i64 t'), kc 24 (.int .i64 (cmpI t t')), ksl 25 3 [.int .i64 (cmpI o o'), .int .i64 (cmpI k k'), .int .i64 (cmpI f f'), .int .i64 (cmpI t t')] 4] 21 (by kernel_rfl) (by kernel_rfl) (by kernel_rfl) (by repeat' first | exact trivial | apply kc_keeps | apply ksl_keeps | constructor) 2 (by kernel_rfl) (fun vv ll hh yW bW => ?_) (fun vv ll hh yW bW F ivh aph => ?_)
  · have x0 := (bW.cell (p := ⟨X, _, none⟩) l0).trans c0
    have x1 := (bW.cell (p := ⟨X, _, none⟩) l0).trans c1
    have x2 := (bW.cell (p := ⟨X, _, none⟩) l0).trans c2
    have x3 := (bW.cell (p := ⟨X, _, none⟩) l0).trans c3
    have y0 := (bW.cell (p := ⟨X + 1, _, none⟩) l1).trans d0
    have y1 := (bW.cell (p := ⟨X + 1, _, none⟩) l1).trans d1
    have y2 := (bW.cell (p := ⟨X + 1, _, none⟩) l1).trans d2
    have y3 := (bW.cell (p := ⟨X + 1, _, none⟩) l1).trans d3
    refine ⟨tp (by kernel_rfl), tp ?_, tp (by kernel_rfl), tp ?_, tc ((libCompare o o' _).mono (by rintro e w' ⟨rfl, h⟩; rw [h]; exact ⟨rfl, Below.refl _ _⟩)) (by kernel_rfl), tp (by kernel_rfl), tp ?_, tp (by kernel_rfl), tp ?_, tc ((libCompare k k' _).mono (by rintro e w' ⟨rfl, h⟩; rw [h]; exact ⟨rfl, Below.refl _ _⟩)) (by kernel_rfl), tp (by kernel_rfl), tp ?_, tp (by kernel_rfl), tp ?_, tc ((libCompare f f' _).mono (by rintro e w' ⟨rfl, h⟩; rw [h]; exact ⟨rfl, Below.refl _ _⟩)) (by kernel_rfl), tp (by kernel_rfl), tp ?_, tp (by kernel_rfl), tp ?_, tc ((libCompare t t' _).mono (by rintro e w' ⟨rfl, h⟩; rw [h]; exact ⟨rfl, Below.refl _ _⟩)) (by kernel_rfl), tsl ?_, trivial⟩
    all_goals
      simp only [fillK, putT, List.setIfInBounds_toArray, List.set_cons_zero, List.set_cons_succ]
      unfold execOp
      go_simp
      try rfl
  have FS : Arr yW (ll 20) 3 [.int .i64 (cmpI o o'), .int .i64 (cmpI k k'), .int .i64 (cmpI f f'), .int .i64 (cmpI t t')] ∧ ll 20 < hh 20 := F.2.2.2.2.2.2.2.2.2.2.2.2.2.2.2.2.2.2.2.2.1
  clear F ivh aph c0 c1 c2 c3 d0 d1 d2 d3 A0 A1 l0 l1
  obtain ⟨y, hy⟩ : ∃ z, z = yW := ⟨_, rfl⟩
  rw [← hy] at bW FS ⊢
  clear hy
  obtain ⟨g, hg⟩ : ∃ g, g = ll 20 := ⟨_, rfl⟩
  rw [← hg] at FS
  have hI : Is y (some ⟨g, 0, none⟩) 4 4 [cmpI o o', cmpI k k', cmpI f f', cmpI t t'] := ⟨(fun h => by cases h), rfl, Nat.le_refl _, (by intro x hx; simp at hx; rcases hx with rfl | rfl | rfl | rfl <;> exact I1 _ _), .inr ⟨g, 0, rfl, FS.1.lt, fun j hj => by
    have : j = 0 ∨ j = 1 ∨ j = 2 ∨ j = 3 := by omega
    rcases this with rfl | rfl | rfl | rfl
    · exact FS.1.cell 0
    · exact FS.1.cell 1
    · exact FS.1.cell 2
    · exact FS.1.cell 3⟩⟩
  refine st_call (i := 21) (o := { dst := some 26, op := Op.call { callee := Callee.value (Operand.func 131), args := #[Operand.tmp 25], argTypes := #[61] }, type := 3, pos := "l08_bundle.go:316", after := #[{ on := 20, ground := Ground.data }, { on := 19, ground := Ground.chain }], guard := none }) (by kernel_rfl) rfl rfl (f := 131) (args := #[.slice (some ⟨g, 0, none⟩) 4 4]) ?_ ?_
  · rw [hg]
    kernel_rfl
  refine Calls.mono (libOr _ _ _ _ _ hI (by omega)) ?_
  rintro e w2 ⟨rfl, hw⟩
  refine ⟨_, rfl, ?_⟩
  rw [hw]
  clear hw hI FS hg
  have HZ : Hid (orL [cmpI o o', cmpI k k', cmpI f f', cmpI t t'] = ndC o f t k o' f' t' k') := rfl
  obtain ⟨z, hz⟩ : ∃ z, z = orL [cmpI o o', cmpI k k', cmpI f f', cmpI t t'] := ⟨_, rfl⟩
  rw [← hz] at HZ ⊢
  clear hz
  refine st_val (i := 22) (o := { dst := some 4, op := Op.assign (Operand.tmp 26), type := 3, pos := "l08_bundle.go:316", after := #[{ on := 21, ground := Ground.data }, { on := 21, ground := Ground.chain }, { on := 0, ground := Ground.phase }, { on := 1, ground := Ground.phase }, { on := 2, ground := Ground.phase }, { on := 3, ground := Ground.phase }, { on := 4, ground := Ground.phase }, { on := 5, ground := Ground.phase }, { on := 6, ground := Ground.phase }, { on := 7, ground := Ground.phase }, { on := 8, ground := Ground.phase }, { on := 9, ground := Ground.phase }, { on := 10, ground := Ground.phase }, { on := 11, ground := Ground.phase }, { on := 12, ground := Ground.phase }, { on := 13, ground := Ground.phase }, { on := 14, ground := Ground.phase }, { on := 15, ground := Ground.phase }, { on := 16, ground := Ground.phase }, { on := 17, ground := Ground.phase }, { on := 18, ground := Ground.phase }, { on := 19, ground := Ground.phase }, { on := 20, ground := Ground.phase }, { on := 21, ground := Ground.phase }], guard := none }) (by kernel_rfl) rfl rfl (v := .int .i64 z) (w' := y) (by kernel_rfl) ?_
  refine wpAny_done (by kernel_rfl) ?_ _
  try simp only [Act.put]
  simp only [fillK, putT, List.setIfInBounds_toArray, List.set_cons_zero, List.set_cons_succ]
  go_wp2
  go_ret
  exact ⟨by rw [← HZ.out]; rfl, HB.out.trans (bW.mono HB.out.size)⟩
end Go.Proofs.Ytgfjbaigmkdbcaa

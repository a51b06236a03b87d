/-
  What is proved here: what the program's compareNeed answers; rows of four cells in memory, and what a list is that is ok and ascends; no program is spoken of; the contract of the program's listOk over parts: it answers whether there are not too many, each is ok, and each is below the one behind it.
-/
import Derived.Test.YtofflhhlacdgfaaDoorJM17
import Derived.Test.YtofflhhlacdgfaaDoorTm
import Derived.Test.YtofflhhlacdgfaaDoorJM21
import Derived.Test.YtofflhhlacdgfaaDoorJM2
import Derived.Test.YtofflhhlacdgfaaDoorJM5
namespace Go.Proofs.YtofflhhlacdgfaaDoor
open Go.RowKit
set_option maxRecDepth 100000
set_option maxHeartbeats 4000000

/-- A slice literal. -/
abbrev ksl (d : Nat) (t : TypeId) (cs : List Value) (m : Nat) : Kd := (some d, (fun l _ => .slice (some ⟨l, 0, none⟩) m m), fun l h w _ => Arr w l t cs ∧ l < h)
theorem ksl_keeps (d : Nat) (t : TypeId) (cs : List Value) (m : Nat) : Kd.keeps (ksl d t cs m) := fun _ _ _ _ _ h _ b => ⟨h.1.kept b, h.2⟩
theorem tsl {P : Program} {ev : Operand → Value} {o : Oper} {d m : Nat} {w : World} {X : Prop} {t : TypeId} {cs : List Value} (h : (execOp ev o).run P w = .ok (.value (.slice (some ⟨w.heap.size, 0, none⟩) m m)) (w.alloc (.cells cs.toArray t))) : Dty X (TOb P ev o (ksl d t cs m) w) := ⟨fun _ => by
  refine ⟨?_⟩
  unfold TObR
  rw [h]
  exact ⟨undef, rfl, (Below.refl _ _).alloc (Nat.le_refl _) _, Arr.new w cs t, by simp⟩⟩
def ndC (o f t k o' f' t' k' : Int) : Int := orL [cmpI o o', cmpI k k', cmpI f f', cmpI t t']
theorem ndC_neg (o f t k o' f' t' k' : Int) : ndC o f t k o' f' t' k' < 0 ↔ needLt o f t k o' f' t' k' := by
  unfold ndC orL
  have h1 := cmpI_zero o o'
  have h2 := cmpI_zero k k'
  have h3 := cmpI_zero f f'
  have h4 := cmpI_zero t t'
  have g1 := cmpI_neg o o'
  have g2 := cmpI_neg k k'
  have g3 := cmpI_neg f f'
  have g4 := cmpI_neg t t'
  generalize cmpI o o' = a at *
  generalize cmpI k k' = b at *
  generalize cmpI f f' = c at *
  generalize cmpI t t' = d at *
  by_cases ha : a = 0
  · by_cases hb : b = 0
    · by_cases hc : c = 0
      · by_cases hd : d = 0
        · simp [List.find?, ha, hb, hc, hd]; first | omega | (unfold needLt; omega)
        · have e : (d != 0) = true := by simpa using hd
          simp [List.find?, ha, hb, hc, e]; first | omega | (unfold needLt; omega)
      · have e : (c != 0) = true := by simpa using hc
        simp [List.find?, ha, hb, e]; first | omega | (unfold needLt; omega)
    · have e : (b != 0) = true := by simpa using hb
      simp [List.find?, ha, e]; first | omega | (unfold needLt; omega)
  · have e : (a != 0) = true := by simpa using ha
    simp [List.find?, e]; first | omega | (unfold needLt; omega)
theorem implCompareNeed (o f t k o' f' t' k' : Int) (w : World) :
    Calls Tryd.prog 61 #[.agg #[.int .i64 o, .int .i64 f, .int .i64 t, .int .i64 k], .agg #[.int .i64 o', .int .i64 f', .int .i64 t', .int .i64 k']] w fun e w' => e = .returned (.int .i64 (ndC o f t k o' f' t' k')) ∧ Below w.heap.size w w' := by
  obtain ⟨V, hV⟩ : ∃ V, V = (w.alloc (.cells #[.int .i64 o, .int .i64 f, .int .i64 t, .int .i64 k] 41)).alloc (.cells #[.int .i64 o', .int .i64 f', .int .i64 t', .int .i64 k'] 41) := ⟨_, rfl⟩
  have B : Below w.heap.size w V := by rw [hV]; exact ((Below.refl _ _).alloc (Nat.le_refl _) _).alloc (by simp) _
  have A0 : Arr V w.heap.size 41 [.int .i64 o, .int .i64 f, .int .i64 t, .int .i64 k] := by rw [hV]; exact (Arr.new _ _ _).alloc _
  have A1 : Arr V (w.heap.size + 1) 41 [.int .i64 o', .int .i64 f', .int .i64 t', .int .i64 k'] := by
    rw [hV]
    have := Arr.new (w.alloc (.cells #[.int .i64 o, .int .i64 f, .int .i64 t, .int .i64 k] 41)) [.int .i64 o', .int .i64 f', .int .i64 t', .int .i64 k'] 41
    simpa using this
  have HB : Hid _ := B
  have I1 : ∀ a b, -9223372036854775808 ≤ cmpI a b ∧ cmpI a b ≤ 9223372036854775807 := fun a b => by have := cmpI_int a b; omega
  clear B
  go_enter Tryd.func61, Tryd.ntmps61
  go_wp2
  rw [← hV]
  clear hV
  obtain ⟨X, hX⟩ : ∃ X, X = w.heap.size := ⟨_, rfl⟩
  rw [← hX] at A0 A1 ⊢
  clear hX
  have c0 := A0.cell 0
  have c1 := A0.cell 1
  have c2 := A0.cell 2
  have c3 := A0.cell 3
  have d0 := A1.cell 0
  have d1 := A1.cell 1
  have d2 := A1.cell 2
  have d3 := A1.cell 3
  simp at c0 c1 c2 c3 d0 d1 d2 d3
  have l0 := A0.lt
  have l1 := A1.lt
  try simp only [Act.put]
  refine tame [kc 5 (.pointer (some ⟨X, 0, none⟩)), kc 6 (.int .i64 o), kc 7 (.pointer (some ⟨X + 1, 0, none⟩)), kc 8 (.int .i64 o'), kc 9 (.int .i64 (cmpI o o')), kc 10 (.pointer (some ⟨X, 3, none⟩)), kc 11 (.int .i64 k), kc 12 (.pointer (some ⟨X + 1, 3, none⟩)), kc 13 (.int .i64 k'), kc 14 (.int .i64 (cmpI k k')), kc 15 (.pointer (some ⟨X, 1, none⟩)), kc 16 (.int .i64 f), kc 17 (.pointer (some ⟨X + 1, 1, none⟩)), kc 18 (.int .i64 f'), kc 19 (.int .i64 (cmpI f f')), kc 20 (.pointer (some ⟨X, 2, none⟩)), kc 21 (.int .i64 t), kc 22 (.pointer (some ⟨X + 1, 2, none⟩)), kc 23 (.int .i64 t'), kc 24 (.int .i64 (cmpI t t')), ksl 25 3 [.int .i64 (cmpI o o'), .int .i64 (cmpI k k'), .int .i64 (cmpI f f'), .int .i64 (cmpI t t')] 4] 21 (by kernel_rfl) (by kernel_rfl) (by kernel_rfl) (by repeat' first | exact trivial | apply kc_keeps | apply ksl_keeps | constructor) 2 (by kernel_rfl) (fun vv ll hh yW bW => ?_) (fun vv ll hh yW bW F ivh aph => ?_)
  · have x0 := (bW.cell (p := ⟨X, _, none⟩) l0).trans c0
    have x1 := (bW.cell (p := ⟨X, _, none⟩) l0).trans c1
    have x2 := (bW.cell (p := ⟨X, _, none⟩) l0).trans c2
    have x3 := (bW.cell (p := ⟨X, _, none⟩) l0).trans c3
    have y0 := (bW.cell (p := ⟨X + 1, _, none⟩) l1).trans d0
    have y1 := (bW.cell (p := ⟨X + 1, _, none⟩) l1).trans d1
    have y2 := (bW.cell (p := ⟨X + 1, _, none⟩) l1).trans d2
    have y3 := (bW.cell (p := ⟨X + 1, _, none⟩) l1).trans d3
    refine ⟨tp (by kernel_rfl), tp ?_, tp (by kernel_rfl), tp ?_, tc ((libCompare o o' _).mono (by rintro e w' ⟨rfl, h⟩; rw [h]; exact ⟨rfl, Below.refl _ _⟩)) (by kernel_rfl), tp (by kernel_rfl), tp ?_, tp (by kernel_rfl), tp ?_, tc ((libCompare k k' _).mono (by rintro e w' ⟨rfl, h⟩; rw [h]; exact ⟨rfl, Below.refl _ _⟩)) (by kernel_rfl), tp (by kernel_rfl), tp ?_, tp (by kernel_rfl), tp ?_, tc ((libCompare f f' _).mono (by rintro e w' ⟨rfl, h⟩; rw [h]; exact ⟨rfl, Below.refl _ _⟩)) (by kernel_rfl), tp (by kernel_rfl), tp ?_, tp (by kernel_rfl), tp ?_, tc ((libCompare t t' _).mono (by rintro e w' ⟨rfl, h⟩; rw [h]; exact ⟨rfl, Below.refl _ _⟩)) (by kernel_rfl), tsl ?_, trivial⟩
    all_goals
      simp only [fillK, putT, List.setIfInBounds_toArray, List.set_cons_zero, List.set_cons_succ]
      unfold execOp
      go_simp
      try rfl
  have FS : Arr yW (ll 20) 3 [.int .i64 (cmpI o o'), .int .i64 (cmpI k k'), .int .i64 (cmpI f f'), .int .i64 (cmpI t t')] ∧ ll 20 < hh 20 := F.2.2.2.2.2.2.2.2.2.2.2.2.2.2.2.2.2.2.2.2.1
  clear F ivh aph c0 c1 c2 c3 d0 d1 d2 d3 A0 A1 l0 l1
  obtain ⟨y, hy⟩ : ∃ z, z = yW := ⟨_, rfl⟩
  rw [← hy] at bW FS ⊢
  clear hy
  obtain ⟨g, hg⟩ : ∃ g, g = ll 20 := ⟨_, rfl⟩
  rw [← hg] at FS
  have hI : Is y (some ⟨g, 0, none⟩) 4 4 [cmpI o o', cmpI k k', cmpI f f', cmpI t t'] := ⟨(fun h => by cases h), rfl, Nat.le_refl _, (by intro x hx; simp at hx; rcases hx with rfl | rfl | rfl | rfl <;> exact I1 _ _), .inr ⟨g, 0, rfl, FS.1.lt, fun j hj => by
    have : j = 0 ∨ j = 1 ∨ j = 2 ∨ j = 3 := by omega
    rcases this with rfl | rfl | rfl | rfl
    · exact FS.1.cell 0
    · exact FS.1.cell 1
    · exact FS.1.cell 2
    · exact FS.1.cell 3⟩⟩
  refine st_call (i := 21) (o := { dst := some 26, op := Op.call { callee := Callee.value (Operand.func 104), args := #[Operand.tmp 25], argTypes := #[91] }, type := 3, pos := "l08_bundle.go:316", after := #[{ on := 20, ground := Ground.data }, { on := 19, ground := Ground.chain }], guard := none }) (by kernel_rfl) rfl rfl (f := 104) (args := #[.slice (some ⟨g, 0, none⟩) 4 4]) ?_ ?_
  · rw [hg]
    kernel_rfl
  refine Calls.mono (libOr _ _ _ _ _ hI (by omega)) ?_
  rintro e w2 ⟨rfl, hw⟩
  refine ⟨_, rfl, ?_⟩
  rw [hw]
  clear hw hI FS hg
  have HZ : Hid (orL [cmpI o o', cmpI k k', cmpI f f', cmpI t t'] = ndC o f t k o' f' t' k') := rfl
  obtain ⟨z, hz⟩ : ∃ z, z = orL [cmpI o o', cmpI k k', cmpI f f', cmpI t t'] := ⟨_, rfl⟩
  rw [← hz] at HZ ⊢
  clear hz
  refine st_val (i := 22) (o := { dst := some 4, op := Op.assign (Operand.tmp 26), type := 3, pos := "l08_bundle.go:316", after := #[{ on := 21, ground := Ground.data }, { on := 21, ground := Ground.chain }, { on := 0, ground := Ground.phase }, { on := 1, ground := Ground.phase }, { on := 2, ground := Ground.phase }, { on := 3, ground := Ground.phase }, { on := 4, ground := Ground.phase }, { on := 5, ground := Ground.phase }, { on := 6, ground := Ground.phase }, { on := 7, ground := Ground.phase }, { on := 8, ground := Ground.phase }, { on := 9, ground := Ground.phase }, { on := 10, ground := Ground.phase }, { on := 11, ground := Ground.phase }, { on := 12, ground := Ground.phase }, { on := 13, ground := Ground.phase }, { on := 14, ground := Ground.phase }, { on := 15, ground := Ground.phase }, { on := 16, ground := Ground.phase }, { on := 17, ground := Ground.phase }, { on := 18, ground := Ground.phase }, { on := 19, ground := Ground.phase }, { on := 20, ground := Ground.phase }, { on := 21, ground := Ground.phase }], guard := none }) (by kernel_rfl) rfl rfl (v := .int .i64 z) (w' := y) (by kernel_rfl) ?_
  refine wpAny_done (by kernel_rfl) ?_ _
  try simp only [Act.put]
  simp only [fillK, putT, List.setIfInBounds_toArray, List.set_cons_zero, List.set_cons_succ]
  go_wp2
  go_ret
  exact ⟨by rw [← HZ.out]; rfl, HB.out.trans (bW.mono HB.out.size)⟩
end Go.Proofs.YtofflhhlacdgfaaDoor
namespace Go.Proofs.YtofflhhlacdgfaaDoor
open Go.RowKit

abbrev lstOkP (n : Nat) (most : Int) (P : Nat → Bool) (C : Nat → Int) : Prop := (n : Int) ≤ most ∧ ∀ i, i < n → P i = true ∧ (0 < i → C (i - 1) < 0)
def lstOk (n : Nat) (most : Int) (P : Nat → Bool) (C : Nat → Int) : Bool := decide (lstOkP n most P C)
theorem lstOk_dec (n : Nat) (most : Int) (P : Nat → Bool) (C : Nat → Int) : ∃ R, lstOk n most P C = R ∧ Hid (lstOkP n most P C → R = true) ∧ Hid (¬ lstOkP n most P C → R = false) := ⟨_, rfl, decide_eq_true, decide_eq_false⟩
end Go.Proofs.YtofflhhlacdgfaaDoor
namespace Go.Proofs.YtofflhhlacdgfaaDoor
open Go.RowKit
set_option maxRecDepth 100000
set_option maxHeartbeats 8000000

theorem implListOkPart (a : Option Addr) (n c : Nat) (most : Int) (hm : most ≤ 1000) (v : Nat → L4) (P : Nat → Bool) (C : Nat → Int) (w : World) (hl : Rw4 w a n v) (hS : ∀ i, i < n → ∃ ki kr kv ha hn hc, v i = (⟨.int .i64 ki, .int .i64 kr, .int .i64 kv, .slice ha hn hc⟩ : L4))
    (hP : ∀ i, i < n → ∀ W, Below w.heap.size w W → Calls Tryd.prog 57 #[.agg #[(v i).a, (v i).b, (v i).c, (v i).d]] W fun e w' => e = .returned (.bool (P i)) ∧ Below W.heap.size W w')
    (hC : ∀ i, i + 1 < n → ∀ W, Below w.heap.size w W → Calls Tryd.prog 58 #[.agg #[(v i).a, (v i).b, (v i).c, (v i).d], .agg #[(v (i + 1)).a, (v (i + 1)).b, (v (i + 1)).c, (v (i + 1)).d]] W fun e w' => e = .returned (.int .i64 (C i)) ∧ Below W.heap.size W w') :
    Calls Tryd.prog 56 #[.slice a n c, .int .i64 most, .func (.func 57) #[] #[], .func (.func 58) #[] #[]] w fun e w' => e = .returned (.bool (lstOk n most P C)) ∧ Below w.heap.size w w' := by
  obtain ⟨R, hR, HT, HF⟩ := lstOk_dec n most P C
  rw [hR]
  clear hR
  have HPP : Hid _ := hP
  have HCC : Hid _ := hC
  clear hP hC
  go_enter Tryd.func56, Tryd.ntmps56
  by_cases h8 : most < (n : Int)
  case pos =>
    have HNo : Hid (R = false) := HF.out (fun h => by have := h.1; omega)
    go_wp2
    go_ret
    exact ⟨by rw [HNo.out]; rfl, Below.refl _ _⟩
  have HKs : Hid (Rw4 w a n v) := hl
  clear hl
  go_wp2
  go_loopw [17] (fun i wr => ∃ k : Nat, k ≤ n ∧ i = .int .i64 k ∧ Hid (∀ j, j < k → P j = true ∧ (0 < j → C (j - 1) < 0)) ∧ Below w.heap.size w wr) (fun i _ => n - (intOf i).toNat)
  case atStart => exact ⟨0, by omega, rfl, (fun j hj => by omega), Below.refl _ _⟩
  case round =>
    obtain ⟨k, hk, rfl, HN, Bl⟩ := hrel
    by_cases hlt : (k : Int) < (n : Int)
    · obtain ⟨b, o, rfl, hbs, hcell⟩ : ∃ b o, a = some ⟨b, o, none⟩ ∧ b < wr.heap.size ∧ ∀ i, i < n → Cell4 wr b (o + i * 4) (v i) := by
        rcases HKs.out.below Bl with hq | hq
        · omega
        · exact hq
      have P0 := hcell k (by omega)
      obtain ⟨p, ep⟩ : ∃ p, p = v k := ⟨_, rfl⟩
      have cP := HPP.out k (by omega)
      obtain ⟨ki, kr, kv, ha, hn, hc, es⟩ := hS k (by omega)
      rw [← ep] at es
      rw [← ep] at P0 cP
      subst es
      obtain ⟨q1, q2, q3, q4⟩ := P0
      simp only [] at q1 q2 q3 q4 cP
      have HE : Hid _ := ep
      have hk0 : (0 : Int) ≤ (k : Int) := by omega
      clear ep
      go_upto_region 6 with fail
      obtain ⟨Z, hZ⟩ : ∃ Z, Z = wr.alloc (.cells #[.int .i64 ki, .int .i64 kr, .int .i64 kv, .slice ha hn hc] 45) := ⟨_, rfl⟩
      have bV : Below wr.heap.size wr Z := by rw [hZ]; exact (Below.refl _ _).alloc (Nat.le_refl _) _
      have D : Arr Z wr.heap.size 45 [.int .i64 ki, .int .i64 kr, .int .i64 kv, .slice ha hn hc] := by rw [hZ]; exact Arr.new _ _ _
      rw [← hZ]
      obtain ⟨X, hX⟩ : ∃ X, X = wr.heap.size := ⟨_, rfl⟩
      rw [← hX] at D ⊢
      replace hcell := fun i hi => (hcell i hi).below hbs bV
      replace hbs := Nat.lt_of_lt_of_le hbs bV.size
      replace Bl := Bl.trans (bV.mono Bl.size)
      replace cP := fun W (h : Below Z.heap.size Z W) => cP W (Bl.trans (h.mono Bl.size))
      have CP : Hid _ := cP
      clear hZ hX bV q1 q2 q3 q4 cP
      have d0 := D.cell 0
      have d1 := D.cell 1
      have d2 := D.cell 2
      have d3 := D.cell 3
      simp at d0 d1 d2 d3
      obtain ⟨pk, epk⟩ : ∃ q, q = P k := ⟨_, rfl⟩
      rw [← epk] at CP
      have HPK : Hid _ := epk
      clear epk
      cases pk with
      | false =>
        have HNo : Hid (R = false) := HF.out (fun h => by
          have h2 := (h.2 k (by omega)).1
          rw [← HPK.out] at h2
          cases h2)
        try simp only [Act.put]
        refine tameG [kc 22 (.func (.func 57) #[] #[]), kc 23 (.agg #[.int .i64 ki, .int .i64 kr, .int .i64 kv, .slice ha hn hc]), kc 24 (.bool false), kc 25 (.bool true), kc 26 (.bool true), kc 27 (undef), kc 28 (undef), kc 29 (undef), kc 30 (undef), kc 31 (undef), kc 32 (undef), kc 33 (undef), kc 34 (undef), kc 35 (undef), kc 36 (undef), kc 37 (undef), kc 38 (undef), kc 39 (undef), kc 40 (.bool true)] 19 (by kernel_rfl) (by kernel_rfl) (by kernel_rfl) (by repeat' first | exact trivial | apply kc_keeps | constructor) 0 (by kernel_rfl) (fun vv ll hh yW bW => ?_) (fun vv ll hh yW bW F ivh aph => ?_)
        · have x0 := (bW.cell (p := ⟨X, 0, none⟩) D.lt).trans d0
          have x1 := (bW.cell (p := ⟨X, 1, none⟩) D.lt).trans d1
          have x2 := (bW.cell (p := ⟨X, 2, none⟩) D.lt).trans d2
          have x3 := (bW.cell (p := ⟨X, 3, none⟩) D.lt).trans d3
          refine ⟨og (tp (by kernel_rfl)) (by kernel_rfl), og (tp ?_) (by kernel_rfl), og (tc (CP.out yW bW) (by kernel_rfl)) (by kernel_rfl), og (tp (by kernel_rfl)) (by kernel_rfl), og (tp (by kernel_rfl)) (by kernel_rfl), ou (by kernel_rfl), ou (by kernel_rfl), ou (by kernel_rfl), ou (by kernel_rfl), ou (by kernel_rfl), ou (by kernel_rfl), ou (by kernel_rfl), ou (by kernel_rfl), ou (by kernel_rfl), ou (by kernel_rfl), ou (by kernel_rfl), ou (by kernel_rfl), ou (by kernel_rfl), og (tp (by kernel_rfl)) (by kernel_rfl), trivial⟩
          all_goals
            simp only [fillK, putT, List.setIfInBounds_toArray, List.set_cons_zero, List.set_cons_succ]
            unfold execOp
            go_simp
            try rfl
        clear F ivh aph
        obtain ⟨y, hy⟩ : ∃ z, z = yW := ⟨_, rfl⟩
        rw [← hy] at bW ⊢
        clear hy
        refine wpAny_done (by kernel_rfl) ?_ _
        simp only [fillK, putT, List.setIfInBounds_toArray, List.set_cons_zero, List.set_cons_succ]
        go_wp2
        go_ret
        exact ⟨by rw [HNo.out]; rfl, Bl.trans (bW.mono Bl.size)⟩
      | true =>
        by_cases hz : 0 < k
        · have hkd : (0 : Int) < (k : Int) := by omega
          have hk1 : (1 : Int) ≤ (k : Int) := by omega
          have hk2 : (k : Int) - 1 < (n : Int) := by omega
          have hw1 : IntKind.i64.wrap ((k : Int) - 1) = (k : Int) - 1 := by rw [IntKind.wrap_i64]; omega
          have ht1 : ((k : Int) - 1).toNat = k - 1 := by omega
          have P' := hcell (k - 1) (by omega)
          have cC := HCC.out (k - 1) (by omega)
          rw [show k - 1 + 1 = k by omega, ← HE.out] at cC
          obtain ⟨q, eq⟩ : ∃ q, q = v (k - 1) := ⟨_, rfl⟩
          rw [← eq] at P' cC
          obtain ⟨ki', kr', kv', ha', hn', hc', es⟩ := hS (k - 1) (by omega)
          rw [← eq] at es
          clear eq
          subst es
          obtain ⟨r0, r1, r2, r3⟩ := P'
          simp only [] at r0 r1 r2 r3 cC
          replace cC := fun W (h : Below Z.heap.size Z W) => cC W (Bl.trans (h.mono Bl.size))
          obtain ⟨cv, ecv⟩ : ∃ z, z = C (k - 1) := ⟨_, rfl⟩
          rw [← ecv] at cC
          have CC : Hid _ := cC
          have HCV : Hid _ := ecv
          clear cC ecv hcell
          by_cases hzk : cv < 0
          · have hzn : ¬ 0 ≤ cv := by omega
            have HZK : Hid _ := hzk
            try simp only [Act.put]
            refine tameG [kc 22 (.func (.func 57) #[] #[]), kc 23 (.agg #[.int .i64 ki, .int .i64 kr, .int .i64 kv, .slice ha hn hc]), kc 24 (.bool true), kc 25 (.bool false), kc 26 (.bool false), kc 27 (.int .i64 (k : Int)), kc 28 (.bool true), kc 29 (.bool true), kc 30 (.func (.func 58) #[] #[]), kc 31 (.slice (some ⟨b, o, none⟩) n c), kc 32 (.int .i64 (k : Int)), kc 33 (.int .i64 ((k : Int) - 1)), kc 34 (.pointer (some ⟨b, o + (k - 1) * 4, none⟩)), kc 35 (.agg #[.int .i64 ki', .int .i64 kr', .int .i64 kv', .slice ha' hn' hc']), kc 36 (.agg #[.int .i64 ki, .int .i64 kr, .int .i64 kv, .slice ha hn hc]), kc 37 (.int .i64 cv), kc 38 (.bool false), kc 39 (.bool false), kc 40 (.bool false)] 19 (by kernel_rfl) (by kernel_rfl) (by kernel_rfl) (by repeat' first | exact trivial | apply kc_keeps | constructor) 0 (by kernel_rfl) (fun vv ll hh yW bW => ?_) (fun vv ll hh yW bW F ivh aph => ?_)
            · have x0 := (bW.cell (p := ⟨X, 0, none⟩) D.lt).trans d0
              have x1 := (bW.cell (p := ⟨X, 1, none⟩) D.lt).trans d1
              have x2 := (bW.cell (p := ⟨X, 2, none⟩) D.lt).trans d2
              have x3 := (bW.cell (p := ⟨X, 3, none⟩) D.lt).trans d3
              have y0 := (bW.cell (p := ⟨b, _, none⟩) hbs).trans r0
              have y1 := (bW.cell (p := ⟨b, _, none⟩) hbs).trans r1
              have y2 := (bW.cell (p := ⟨b, _, none⟩) hbs).trans r2
              have y3 := (bW.cell (p := ⟨b, _, none⟩) hbs).trans r3
              refine ⟨og (tp (by kernel_rfl)) (by kernel_rfl), og (tp ?_) (by kernel_rfl), og (tc (CP.out yW bW) (by kernel_rfl)) (by kernel_rfl), og (tp (by kernel_rfl)) (by kernel_rfl), og (tp (by kernel_rfl)) (by kernel_rfl), og (tp (by kernel_rfl)) (by kernel_rfl), og (tp ?_) (by kernel_rfl), og (tp (by kernel_rfl)) (by kernel_rfl), og (tp (by kernel_rfl)) (by kernel_rfl), og (tp (by kernel_rfl)) (by kernel_rfl), og (tp (by kernel_rfl)) (by kernel_rfl), og (tp ?_) (by kernel_rfl), og (tp ?_) (by kernel_rfl), og (tp ?_) (by kernel_rfl), og (tp ?_) (by kernel_rfl), og (tc (CC.out yW bW) (by kernel_rfl)) (by kernel_rfl), og (tp ?_) (by kernel_rfl), og (tp (by kernel_rfl)) (by kernel_rfl), og (tp (by kernel_rfl)) (by kernel_rfl), trivial⟩
              all_goals
                simp only [fillK, putT, List.setIfInBounds_toArray, List.set_cons_zero, List.set_cons_succ]
                unfold execOp
                go_simp
                try rfl
            clear F ivh aph
            obtain ⟨y, hy⟩ : ∃ z, z = yW := ⟨_, rfl⟩
            rw [← hy] at bW ⊢
            clear hy
            refine wpAny_done (by kernel_rfl) ?_ _
            simp only [fillK, putT, List.setIfInBounds_toArray, List.set_cons_zero, List.set_cons_succ]
            replace Bl := Bl.trans (bW.mono Bl.size)
            have HN2 : Hid (∀ j, j < k + 1 → P j = true ∧ (0 < j → C (j - 1) < 0)) := by
              unfold Hid; intro j hj
              by_cases hjk : j = k
              · subst hjk
                exact ⟨HPK.out.symm, fun _ => by rw [← HCV.out]; exact HZK.out⟩
              · exact HN.out j (by omega)
            go_wp2
            go_roundw
            case rel => exact ⟨k + 1, by omega, by go_num, HN2, Bl⟩
            case measure => simp [intOf]; omega
          · have hzn : 0 ≤ cv := by omega
            have HNo : Hid (R = false) := HF.out (fun h => by
              have h2 := (h.2 k (by omega)).2 hz
              rw [← HCV.out] at h2
              omega)
            try simp only [Act.put]
            refine tameG [kc 22 (.func (.func 57) #[] #[]), kc 23 (.agg #[.int .i64 ki, .int .i64 kr, .int .i64 kv, .slice ha hn hc]), kc 24 (.bool true), kc 25 (.bool false), kc 26 (.bool false), kc 27 (.int .i64 (k : Int)), kc 28 (.bool true), kc 29 (.bool true), kc 30 (.func (.func 58) #[] #[]), kc 31 (.slice (some ⟨b, o, none⟩) n c), kc 32 (.int .i64 (k : Int)), kc 33 (.int .i64 ((k : Int) - 1)), kc 34 (.pointer (some ⟨b, o + (k - 1) * 4, none⟩)), kc 35 (.agg #[.int .i64 ki', .int .i64 kr', .int .i64 kv', .slice ha' hn' hc']), kc 36 (.agg #[.int .i64 ki, .int .i64 kr, .int .i64 kv, .slice ha hn hc]), kc 37 (.int .i64 cv), kc 38 (.bool true), kc 39 (.bool true), kc 40 (.bool true)] 19 (by kernel_rfl) (by kernel_rfl) (by kernel_rfl) (by repeat' first | exact trivial | apply kc_keeps | constructor) 0 (by kernel_rfl) (fun vv ll hh yW bW => ?_) (fun vv ll hh yW bW F ivh aph => ?_)
            · have x0 := (bW.cell (p := ⟨X, 0, none⟩) D.lt).trans d0
              have x1 := (bW.cell (p := ⟨X, 1, none⟩) D.lt).trans d1
              have x2 := (bW.cell (p := ⟨X, 2, none⟩) D.lt).trans d2
              have x3 := (bW.cell (p := ⟨X, 3, none⟩) D.lt).trans d3
              have y0 := (bW.cell (p := ⟨b, _, none⟩) hbs).trans r0
              have y1 := (bW.cell (p := ⟨b, _, none⟩) hbs).trans r1
              have y2 := (bW.cell (p := ⟨b, _, none⟩) hbs).trans r2
              have y3 := (bW.cell (p := ⟨b, _, none⟩) hbs).trans r3
              refine ⟨og (tp (by kernel_rfl)) (by kernel_rfl), og (tp ?_) (by kernel_rfl), og (tc (CP.out yW bW) (by kernel_rfl)) (by kernel_rfl), og (tp (by kernel_rfl)) (by kernel_rfl), og (tp (by kernel_rfl)) (by kernel_rfl), og (tp (by kernel_rfl)) (by kernel_rfl), og (tp ?_) (by kernel_rfl), og (tp (by kernel_rfl)) (by kernel_rfl), og (tp (by kernel_rfl)) (by kernel_rfl), og (tp (by kernel_rfl)) (by kernel_rfl), og (tp (by kernel_rfl)) (by kernel_rfl), og (tp ?_) (by kernel_rfl), og (tp ?_) (by kernel_rfl), og (tp ?_) (by kernel_rfl), og (tp ?_) (by kernel_rfl), og (tc (CC.out yW bW) (by kernel_rfl)) (by kernel_rfl), og (tp ?_) (by kernel_rfl), og (tp (by kernel_rfl)) (by kernel_rfl), og (tp (by kernel_rfl)) (by kernel_rfl), trivial⟩
              all_goals
                simp only [fillK, putT, List.setIfInBounds_toArray, List.set_cons_zero, List.set_cons_succ]
                unfold execOp
                go_simp
                try rfl
            clear F ivh aph
            obtain ⟨y, hy⟩ : ∃ z, z = yW := ⟨_, rfl⟩
            rw [← hy] at bW ⊢
            clear hy
            refine wpAny_done (by kernel_rfl) ?_ _
            simp only [fillK, putT, List.setIfInBounds_toArray, List.set_cons_zero, List.set_cons_succ]
            go_wp2
            go_ret
            exact ⟨by rw [HNo.out]; rfl, Bl.trans (bW.mono Bl.size)⟩
        · have HZ0 : Hid (k = 0) := by unfold Hid; omega
          have hkd : (0 < k) = False := by simp; omega
          clear hcell hz
          try simp only [Act.put]
          refine tameG [kc 22 (.func (.func 57) #[] #[]), kc 23 (.agg #[.int .i64 ki, .int .i64 kr, .int .i64 kv, .slice ha hn hc]), kc 24 (.bool true), kc 25 (.bool false), kc 26 (.bool false), kc 27 (.int .i64 (k : Int)), kc 28 (.bool false), kc 29 (.bool false), kc 30 (undef), kc 31 (undef), kc 32 (undef), kc 33 (undef), kc 34 (undef), kc 35 (undef), kc 36 (undef), kc 37 (undef), kc 38 (undef), kc 39 (.bool false), kc 40 (.bool false)] 19 (by kernel_rfl) (by kernel_rfl) (by kernel_rfl) (by repeat' first | exact trivial | apply kc_keeps | constructor) 0 (by kernel_rfl) (fun vv ll hh yW bW => ?_) (fun vv ll hh yW bW F ivh aph => ?_)
          · have x0 := (bW.cell (p := ⟨X, 0, none⟩) D.lt).trans d0
            have x1 := (bW.cell (p := ⟨X, 1, none⟩) D.lt).trans d1
            have x2 := (bW.cell (p := ⟨X, 2, none⟩) D.lt).trans d2
            have x3 := (bW.cell (p := ⟨X, 3, none⟩) D.lt).trans d3
            refine ⟨og (tp (by kernel_rfl)) (by kernel_rfl), og (tp ?_) (by kernel_rfl), og (tc (CP.out yW bW) (by kernel_rfl)) (by kernel_rfl), og (tp (by kernel_rfl)) (by kernel_rfl), og (tp (by kernel_rfl)) (by kernel_rfl), og (tp (by kernel_rfl)) (by kernel_rfl), og (tp ?_) (by kernel_rfl), og (tp (by kernel_rfl)) (by kernel_rfl), ou (by kernel_rfl), ou (by kernel_rfl), ou (by kernel_rfl), ou (by kernel_rfl), ou (by kernel_rfl), ou (by kernel_rfl), ou (by kernel_rfl), ou (by kernel_rfl), ou (by kernel_rfl), og (tp (by kernel_rfl)) (by kernel_rfl), og (tp (by kernel_rfl)) (by kernel_rfl), trivial⟩
            all_goals
              simp only [fillK, putT, List.setIfInBounds_toArray, List.set_cons_zero, List.set_cons_succ]
              unfold execOp
              go_simp
              try rfl
          clear F ivh aph
          obtain ⟨y, hy⟩ : ∃ z, z = yW := ⟨_, rfl⟩
          rw [← hy] at bW ⊢
          clear hy
          refine wpAny_done (by kernel_rfl) ?_ _
          simp only [fillK, putT, List.setIfInBounds_toArray, List.set_cons_zero, List.set_cons_succ]
          replace Bl := Bl.trans (bW.mono Bl.size)
          have HN2 : Hid (∀ j, j < k + 1 → P j = true ∧ (0 < j → C (j - 1) < 0)) := by
            unfold Hid; intro j hj
            by_cases hjk : j = k
            · subst hjk
              exact ⟨HPK.out.symm, fun h => by have := HZ0.out; omega⟩
            · exact HN.out j (by omega)
          go_wp2
          go_roundw
          case rel => exact ⟨k + 1, by omega, by go_num, HN2, Bl⟩
          case measure => simp [intOf]; omega
    · have HRT : Hid (R = true) := HT.out ⟨by omega, fun i hi => HN.out i (by omega)⟩
      go_wp2
      go_ret
      exact ⟨by rw [HRT.out]; rfl, Bl⟩
end Go.Proofs.YtofflhhlacdgfaaDoor

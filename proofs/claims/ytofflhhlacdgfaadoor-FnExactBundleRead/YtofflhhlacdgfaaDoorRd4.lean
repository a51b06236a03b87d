/-
  What is proved here: what the program's BundleRead answers: its deferred closure turns a panic of the reader into an answer.
-/
import Derived.Test.YtofflhhlacdgfaaDoorRd3
import Derived.Test.YtofflhhlacdgfaaDoorJM24
import Derived.Defers
import Derived.Recover
namespace Go.Proofs.YtofflhhlacdgfaaDoor
open Go.RowKit Ma
set_option maxRecDepth 100000
set_option maxHeartbeats 8000000
set_option linter.unusedVariables false

theorem catchPanic (V1 V2 : Nat) (x0 x1 x2 x3 x4 : Value) (b : Bool) (u : TypeId) (pv : Value) (older : List PanicEntry) (w : World) (Q1 : Arr w V1 26 [x0, x1, x2, x3, x4]) (Q2 : Arr w V2 4 [.bool b]) :
    CallsD Tryd.prog 63 #[.pointer (some ⟨V1, 0, none⟩), .pointer (some ⟨V2, 0, none⟩)] (.panicking ({ v := .iface u pv, recovered := false } :: older)) w fun e u' w' =>
      e = .returned (.tuple #[]) ∧ u' = .panicking ({ v := .iface u pv, recovered := true } :: older) ∧ w' = (((((w.setCell ⟨V1, 0, none⟩ (.int .i64 0)).setCell ⟨V1, 1, none⟩ (.int .i64 0)).setCell ⟨V1, 2, none⟩ (.int .i64 0)).setCell ⟨V1, 3, none⟩ (.slice none 0 0)).setCell ⟨V1, 4, none⟩ (.slice none 0 0)).setCell ⟨V2, 0, none⟩ (.bool false) := by
  have hne : V1 ≠ V2 := fun e => by
    subst e
    unfold Arr at Q1 Q2
    rw [Q1] at Q2
    simp at Q2
  have Q2' : Arr (((((w.setCell ⟨V1, 0, none⟩ (.int .i64 0)).setCell ⟨V1, 1, none⟩ (.int .i64 0)).setCell ⟨V1, 2, none⟩ (.int .i64 0)).setCell ⟨V1, 3, none⟩ (.slice none 0 0)).setCell ⟨V1, 4, none⟩ (.slice none 0 0)) V2 4 [.bool b] :=
    ((((Q2.other ⟨V1, 0, none⟩ _ hne.symm).other ⟨V1, 1, none⟩ _ hne.symm).other ⟨V1, 2, none⟩ _ hne.symm).other ⟨V1, 3, none⟩ _ hne.symm).other ⟨V1, 4, none⟩ _ hne.symm
  have c0 := Q1.cell 0
  have c1 := Q1.cell 1
  have c2 := Q1.cell 2
  have c3 := Q1.cell 3
  have c4 := Q1.cell 4
  simp at c0 c1 c2 c3 c4
  have fQ := Q1.frozen
  have d0 := Q2'.cell 0
  simp at d0
  have fR := Q2'.frozen
  refine callsD_of_wpS Tryd.func63 rfl fun c₀ cs hu => ?_
  apply wpS_seq
  apply wpS_region
  simp [wpOpsS, go_sem, recoverD, hu, Tryd.ntmps63, Exit.thenS]
  refine wpS_cond (t := true) (by simp [Act.eval, Array.replicate]) ?_
  simp only [if_true]
  refine wpS_of_wp ?_
  go_wp2
  exact ⟨rfl, _, rfl, .tuple #[], results_none rfl _ _ _, rfl, rfl, rfl⟩
theorem catchIdle (V1 V2 : Nat) (w : World) :
    CallsD Tryd.prog 63 #[.pointer (some ⟨V1, 0, none⟩), .pointer (some ⟨V2, 0, none⟩)] .returning w fun e u' w' => e = .returned (.tuple #[]) ∧ u' = .returning ∧ w' = w := by
  refine callsD_of_wpS Tryd.func63 rfl fun c₀ cs hu => ?_
  apply wpS_seq
  apply wpS_region
  simp [wpOpsS, go_sem, recoverD, hu, Tryd.ntmps63, Exit.thenS]
  refine wpS_cond (t := false) (by simp [Act.eval, Array.replicate]) ?_
  simp only [Bool.false_eq_true, if_false]
  refine wpS_of_wp (wp_skip ?_)
  cases c₀
  simp_all [bodyPostS, results, Tryd.results63]
theorem load_bool {w : World} {g : Nat} {b : Bool} (h : Arr w g 4 [.bool b]) : (loadVar 4 ⟨g, 0, none⟩).run Tryd.prog w = .ok (.bool b) w := by
  have d0 := h.cell 0
  simp at d0
  simp [go_sem, d0]
theorem results_two {fn : Func} {p q : Tmp} (h : fn.results = #[.cell p 26, .cell q 4]) (tmps : Array Value) (w : World) (g g2 : Nat) (cs : List Value) (b : Bool)
    (hp : tmps.getD p undef = .pointer (some ⟨g, 0, none⟩)) (hq : tmps.getD q undef = .pointer (some ⟨g2, 0, none⟩)) (hg : Arr w g 26 cs) (hg2 : Arr w g2 4 [.bool b]) (hi : (Tryd.prog.info? 26).map (·.size) = some cs.toArray.size) :
    (results fn tmps).run Tryd.prog w = .ok (.tuple #[.agg cs.toArray, .bool b]) w := by
  have hp' : tmps[p]?.getD undef = .pointer (some ⟨g, 0, none⟩) := by simpa using hp
  have hq' : tmps[q]?.getD undef = .pointer (some ⟨g2, 0, none⟩) := by simpa using hq
  have h1 := run_loadVar_row w g 26 26 cs.toArray (0, 0) _ hg Tryd.underlying26 rfl hi
  have h2 := load_bool hg2
  simp [results, h, hp', hq', asAddr, h1, h2]
/-- What BundleRead of either side answers. -/
abbrev RdAns (xs : List Int) (w : World) (e : Ending) (w' : World) : Prop := ∃ (pa : Option Addr) (pc : Nat) (na : Option Addr) (nc : Nat) (ll : List L4), e = .returned (.tuple #[.agg #[.int .i64 (rdB xs).1.d, .int .i64 (rdB xs).1.n, .int .i64 (rdB xs).1.f, .slice pa (rdB xs).1.ps.length pc, .slice na (rdB xs).1.ns.length nc], .bool (rdB xs).2]) ∧ w'.ownsRow w.heap.size 45 4 (.slice pa (rdB xs).1.ps.length pc) (rdB xs).1.ps.length (QL ll) ∧ Prts w.heap.size w' ll (rdB xs).1.ps ∧ w'.ownsRow w.heap.size 41 4 (.slice na (rdB xs).1.ns.length nc) (rdB xs).1.ns.length (FL ((rdB xs).1.ns.map nrc)) ∧ Below w.heap.size w w'
theorem rd_none {xs : List Int} {w w' : World} (h : rdB xs = (⟨0, 0, 0, [], []⟩, false)) (hb : Below w.heap.size w w') : RdAns xs w (.returned (.tuple #[.agg #[.int .i64 0, .int .i64 0, .int .i64 0, .slice none 0 0, .slice none 0 0], .bool false])) w' := by
  unfold RdAns
  rw [h]
  exact ⟨none, 0, none, 0, [], rfl, World.ownsRow_nil _ _ _ _, Prts.nil, World.ownsRow_nil _ _ _ _, hb⟩
theorem bel_grown {w W W' : World} {B R : Nat} (h : Below B w W) (hB : B ≤ W.heap.size) (hR : B ≤ R) (hg : W.grownBy W' (some R)) : Below B w W' := h.grown hg hB (fun k hk => by injection hk with hk; omega)
theorem bel_five {w W : World} {B g : Nat} (h : Below B w W) (hg : B ≤ g) (a b c d e : Value) : Below B w (((((W.setCell ⟨g, 0, none⟩ a).setCell ⟨g, 1, none⟩ b).setCell ⟨g, 2, none⟩ c).setCell ⟨g, 3, none⟩ d).setCell ⟨g, 4, none⟩ e) :=
  ((((h.setCell hg _).setCell hg _).setCell hg _).setCell hg _).setCell hg _
theorem arr_five {W : World} {G g2 t2 : Nat} {cs : List Value} (h : Arr W g2 t2 cs) (hne : g2 ≠ G) (a b c d e : Value) : Arr (((((W.setCell ⟨G, 0, none⟩ a).setCell ⟨G, 1, none⟩ b).setCell ⟨G, 2, none⟩ c).setCell ⟨G, 3, none⟩ d).setCell ⟨G, 4, none⟩ e) g2 t2 cs :=
  ((((h.other ⟨G, 0, none⟩ a hne).other ⟨G, 1, none⟩ b hne).other ⟨G, 2, none⟩ c hne).other ⟨G, 3, none⟩ d hne).other ⟨G, 4, none⟩ e hne
theorem deadEnd {xs : List Int} {w w1 : World} {V2 : Nat} {x0 x1 x2 x3 x4 : Value} {b : Bool} {tmps : Array Value} {T : TypeId} {pv : Value} (hno : rdB xs = (⟨0, 0, 0, [], []⟩, false)) (Q1 : Arr w1 w.heap.size 26 [x0, x1, x2, x3, x4]) (Q2 : Arr w1 V2 4 [.bool b]) (hV2 : V2 = w.heap.size + 1) (B1 : Below w.heap.size w w1)
    (h2 : tmps.getD 2 undef = .pointer (some ⟨w.heap.size, 0, none⟩)) (h3 : tmps.getD 3 undef = .pointer (some ⟨V2, 0, none⟩)) :
    Leaves Tryd.prog Tryd.f15 tmps (RdAns xs w) [{ target := .fn (.func 63) #[.pointer (some ⟨w.heap.size, 0, none⟩), .pointer (some ⟨V2, 0, none⟩)], args := #[] }] (.panicking [{ v := .iface T pv, recovered := false }]) w1 := by
  refine leaves_cons (f := 63) (args := #[.pointer (some ⟨w.heap.size, 0, none⟩), .pointer (some ⟨V2, 0, none⟩)]) (by simp) (by simp [go_sem]) ?_
  refine (catchPanic w.heap.size V2 _ _ _ _ _ _ T pv [] w1 Q1 Q2).mono ?_
  rintro e u' w'' ⟨rfl, rfl, rfl⟩
  have K1 := (arr_set5 Q1 (.int .i64 0) (.int .i64 0) (.int .i64 0) (.slice none 0 0) (.slice none 0 0)).other ⟨V2, 0, none⟩ (.bool false) (by show w.heap.size ≠ V2; omega)
  have K2 := (arr_five Q2 (show V2 ≠ w.heap.size by omega) (.int .i64 0) (.int .i64 0) (.int .i64 0) (.slice none 0 0) (.slice none 0 0)).set 0 (.bool false)
  exact ⟨_, results_two rfl _ _ w.heap.size V2 _ false h2 h3 K1 K2 (by kernel_rfl), rd_none hno ((bel_five B1 (Nat.le_refl _) _ _ _ _ _).setCell (p := ⟨V2, 0, none⟩) (by show w.heap.size ≤ V2; omega) _)⟩
theorem ps_prts {W : World} {lo k pc : Nat} {pa : Option Addr} {ll : List L4} {l : List PartM} (O : W.ownsRow lo 45 4 (.slice pa k pc) k (QL ll)) (P : Prts lo W ll l) (hk : l.length = k) (hb : ∀ x ∈ l, x.h.length = 32 ∧ ∀ y ∈ x.h, 0 ≤ y ∧ y < 256) : Ps W pa k pc l := by
  rcases O.2 with ⟨h, h0⟩ | ⟨g, cap, cur, h, _, hg, h1, _⟩
  · injection h with e1 e2 e3
    subst e1
    subst e3
    exact ⟨fun _ => rfl, hk, by omega, .inl h0⟩
  · injection h with e1 e2 e3
    subst e1
    subst e3
    refine ⟨(fun h => by cases h), hk, h1, .inr ⟨g, 0, rfl, (Array.getElem?_eq_some_iff.1 hg).1, fun i hi => ?_⟩⟩
    obtain ⟨a, c, e, o⟩ := P.2.1 i (by omega)
    obtain ⟨g0, g1, g2, g3⟩ := QL_get ll i (by have := P.1; omega)
    rw [e] at g0 g1 g2 g3
    have hm : l.getD i pz ∈ l := by
      rw [List.getD_eq_getElem?_getD, List.getElem?_eq_getElem (by omega)]
      exact List.getElem_mem (by omega)
    obtain ⟨h32, hy⟩ := hb _ hm
    rw [Nat.zero_add]
    refine ⟨a, c, ⟨(O.cellAt _ (by omega)).trans g0, (O.cellAt _ (by omega)).trans g1, (O.cellAt _ (by omega)).trans g2, ?_, ?_⟩⟩
    · rw [h32]
      exact (O.cellAt _ (by omega)).trans g3
    · rw [h32]
      rw [← h32] at o ⊢
      exact bs_of_own o hy
theorem implBundleRead (a : Option Addr) (n c : Nat) (xs : List Int) (w : World) (hb : Bs w a n c xs) (hn : n ≤ 1048576) (he : Err w) :
    Calls Tryd.prog 15 #[.slice a n c] w (RdAns xs w) := by
  have hmf : ∀ (fn : Fn) (first cap : Array Value) (w : World), (Instr.makeFunc fn first cap).run Tryd.prog w = .ok (.func fn first cap) w := fun _ _ _ _ => rfl
  have hg0 : 0 < w.heap.size := by
    obtain ⟨T, pv, h⟩ := he
    exact h.lt
  obtain ⟨V, hV⟩ : ∃ V, V = ((w.alloc (.cells #[.int .i64 0, .int .i64 0, .int .i64 0, .slice none 0 0, .slice none 0 0] 26)).alloc (.cells #[.bool false] 4)).alloc (.cells #[.slice a n c, .int .i64 0] 82) := ⟨_, rfl⟩
  have Q1 : Arr V w.heap.size 26 [.int .i64 0, .int .i64 0, .int .i64 0, .slice none 0 0, .slice none 0 0] := by rw [hV]; exact ((Arr.new _ _ _).alloc _).alloc _
  have Q2 : Arr V (w.heap.size + 1) 4 [.bool false] := by
    have := (Arr.new (w.alloc (.cells #[.int .i64 0, .int .i64 0, .int .i64 0, .slice none 0 0, .slice none 0 0] 26)) [.bool false] 4).alloc (.cells #[.slice a n c, .int .i64 0] 82)
    rw [hV]
    simpa using this
  have A : Arr V (w.heap.size + 2) 82 (RdC a n c 0) := by
    have e : ((w.alloc (.cells #[.int .i64 0, .int .i64 0, .int .i64 0, .slice none 0 0, .slice none 0 0] 26)).alloc (.cells #[.bool false] 4)).heap.size = w.heap.size + 2 := by simp
    have := Arr.new ((w.alloc (.cells #[.int .i64 0, .int .i64 0, .int .i64 0, .slice none 0 0, .slice none 0 0] 26)).alloc (.cells #[.bool false] 4)) [.slice a n c, .int .i64 0] 82
    rw [e] at this
    rw [hV]
    exact this
  have B0 : Below w.heap.size w V := by rw [hV]; exact (((Below.refl _ _).alloc (Nat.le_refl _) _).alloc (by simp) _).alloc (by simp; omega) _
  have zV : V.heap.size = w.heap.size + 3 := by rw [hV]; simp
  have HRd : Hid (Rdr V (w.heap.size + 2) a n c 0 xs) := ⟨A, hb.below B0, he.below B0⟩
  have hne : Hid (∀ b o, a = some ⟨b, o, none⟩ → 0 < n → b ≠ w.heap.size + 2) := fun b o e h0 e2 => by
    rcases hb.2.2.2.2 with h | ⟨b', o', e', hlt, _⟩
    · omega
    · rw [e] at e'; cases e'; omega
  have hlen := hb.2.1
  clear A hb he
  go_enter_defers Tryd.func15, Tryd.ntmps15
  go_upto_region 3 with fail
  rw [← hV]
  obtain ⟨V2, hV2⟩ : ∃ v, v = w.heap.size + 1 := ⟨_, rfl⟩
  rw [← hV2]
  rw [← hV2] at Q2
  obtain ⟨R, hRe⟩ : ∃ r, r = V2 + 1 := ⟨_, rfl⟩
  rw [← hRe]
  have hR2 : w.heap.size + 2 = R := by omega
  rw [hR2] at HRd hne
  have hRV : R ≠ w.heap.size := by omega
  have hRV2 : R ≠ V2 := by omega
  have hR0 : R ≠ 0 := by omega
  have HV2 : Hid (V2 = w.heap.size + 1) := hV2
  have hRl : w.heap.size + 2 ≤ R ∧ R ≤ w.heap.size + 2 := by omega
  have hVl : w.heap.size + 1 ≤ V2 ∧ V2 ≤ w.heap.size + 1 := by omega
  have zVl : w.heap.size ≤ V.heap.size := by omega
  clear hV hR2 hRe hV2 zV
  go_wp2_with fail
  refine (rdBundle R a n c xs _ HRd.out hn hR0 hne.out).mono ?_
  rintro e w1 (⟨B, q, pa, pc, na, nc, ll, hrb, rfl, hq, ho, hp, hnn, hg, hA⟩ | ⟨hrb, ⟨T, pv, rfl⟩, hg⟩)
  case inr => exact deadEnd (rdB_none hrb) (Q1.pk hg hRV) (Q2.pk hg hRV2) HV2.out (bel_grown B0 (by omega) (by omega) hg) rfl rfl
  have hE1 : Err w1 := HRd.out.e.grown hg hR0
  have hy : ByL xs := HRd.out.b.2.2.2.1
  have hat := rbun_at hy hrb
  replace B0 := bel_grown B0 (by omega) (by omega) hg
  replace Q1 := Q1.pk hg hRV
  replace Q2 := Q2.pk hg hRV2
  have z1 := B0.size
  have ho1 := own_lowK ho (show w.heap.size ≤ V.heap.size by omega)
  have hn1 := own_lowK hnn (show w.heap.size ≤ V.heap.size by omega)
  have hp1 : Prts w.heap.size w1 ll B.ps := hp.low (by omega)
  have q0 := Q1.cell 0
  have q1 := Q1.cell 1
  have q2 := Q1.cell 2
  have q3 := Q1.cell 3
  have q4 := Q1.cell 4
  simp at q0 q1 q2 q3 q4
  have fQ := Q1.frozen
  have lQ := Q1.lt
  have HRB : Hid (rbun xs = some (B, q)) := hrb
  obtain ⟨Y, hY⟩ : ∃ Y, Y = (((((w1.setCell ⟨w.heap.size, 0, none⟩ (.int .i64 B.d)).setCell ⟨w.heap.size, 1, none⟩ (.int .i64 B.n)).setCell ⟨w.heap.size, 2, none⟩ (.int .i64 B.f)).setCell ⟨w.heap.size, 3, none⟩ (.slice pa B.ps.length pc)).setCell ⟨w.heap.size, 4, none⟩ (.slice na B.ns.length nc)) := ⟨_, rfl⟩
  have K1 : Arr Y w.heap.size 26 [.int .i64 B.d, .int .i64 B.n, .int .i64 B.f, .slice pa B.ps.length pc, .slice na B.ns.length nc] := by rw [hY]; exact arr_set5 Q1 _ _ _ _ _
  have K2 : Arr Y V2 4 [.bool false] := by rw [hY]; exact arr_five Q2 (by omega) _ _ _ _ _
  have KA : Arr Y R 82 (RdC a n c q) := by rw [hY]; exact arr_five hA (by omega) _ _ _ _ _
  have HOr : Hid (Y.ownsRow w.heap.size 45 4 (.slice pa B.ps.length pc) B.ps.length (QL ll)) := by unfold Hid; rw [hY]; exact own_set5 ho1 Q1 (by decide) _ _ _ _ _
  have HNr : Hid (Y.ownsRow w.heap.size 41 4 (.slice na B.ns.length nc) B.ns.length (FL (B.ns.map nrc))) := by unfold Hid; rw [hY]; exact own_set5 hn1 Q1 (by decide) _ _ _ _ _
  have HPr : Hid (Prts w.heap.size Y ll B.ps) := by unfold Hid; rw [hY]; exact hp1.set5 Q1 (by decide) _ _ _ _ _
  have BY : Below w.heap.size w Y := by rw [hY]; exact bel_five B0 (Nat.le_refl _) _ _ _ _ _
  have HEY : Hid (Err Y) := by
    obtain ⟨T, pv, t, z, h⟩ := hE1
    refine ⟨T, pv, t, z, ?_⟩
    rw [hY]
    rw [heap_setCell_other _ _ _ _ (by show 0 ≠ w.heap.size; omega), heap_setCell_other _ _ _ _ (by show 0 ≠ w.heap.size; omega), heap_setCell_other _ _ _ _ (by show 0 ≠ w.heap.size; omega), heap_setCell_other _ _ _ _ (by show 0 ≠ w.heap.size; omega), heap_setCell_other _ _ _ _ (by show 0 ≠ w.heap.size; omega)]
    exact h
  clear ho hp hnn hg hA ho1 hn1 hp1 hrb hE1 B0
  go_upto_region 4 with fail
  rw [← hY]
  clear hY q0 q1 q2 q3 q4 fQ lQ Q1 Q2
  have c1 := KA.cell 1
  have c0 := KA.cell 0
  simp at c0 c1
  have lA := KA.lt
  clear KA
  by_cases hqn : q = n
  · subst hqn
    have k0 := K1.cell 0
    have k1 := K1.cell 1
    have k2 := K1.cell 2
    have k3 := K1.cell 3
    have k4 := K1.cell 4
    simp at k0 k1 k2 k3 k4
    obtain ⟨_, _, en, hNs⟩ := ns_of HNr.out
    injection en with en1 en2 en3
    subst en1
    subst en3
    have HOK : Hid _ := implBundleOk pa B.ps.length pc na B.ns.length nc B Y (ps_prts HOr.out HPr.out rfl hat.2.2.2.1) hNs
    clear hNs
    go_wp2_with fail
    refine Calls.mono HOK.out ?_
    clear HOK
    rintro e w2 ⟨rfl, hb⟩
    replace K1 := K1.kept hb
    replace K2 := K2.kept hb
    replace BY := BY.trans (hb.mono BY.size)
    replace HEY : Hid (Err w2) := HEY.out.below hb
    replace HOr : Hid (w2.ownsRow w.heap.size 45 4 (.slice pa B.ps.length pc) B.ps.length (QL ll)) := own_below HOr.out hb
    replace HNr : Hid (w2.ownsRow w.heap.size 41 4 (.slice na B.ns.length nc) B.ns.length (FL (B.ns.map nrc))) := own_below HNr.out hb
    replace HPr : Hid (Prts w.heap.size w2 ll B.ps) := HPr.out.below hb
    clear hb c0 c1 k0 k1 k2 k3 k4 lA
    obtain ⟨ok, hok⟩ : ∃ ok, ok = bOk B := ⟨_, rfl⟩
    rw [← hok]
    have HOk : Hid (bOk B = ok) := hok.symm
    clear hok
    cases ok
    · go_wp2_with fail
      refine (rdWant R false _ HEY.out).mono ?_
      rintro e w3 ⟨rfl, ⟨h, _⟩ | ⟨_, ⟨T, pv, rfl⟩⟩⟩
      case inl => cases h
      exact deadEnd (rdB_no HRB.out (fun h => by have := HOk.out.symm.trans h.2; cases this)) K1 K2 HV2.out BY rfl rfl
    · go_wp2_with fail
      refine (rdWant R true _ HEY.out).mono ?_
      rintro e w3 ⟨rfl, ⟨_, rfl⟩ | ⟨h, _⟩⟩
      case inr => cases h
      have k0 := K1.cell 0
      have k1 := K1.cell 1
      have k2 := K1.cell 2
      have k3 := K1.cell 3
      have k4 := K1.cell 4
      simp at k0 k1 k2 k3 k4
      have fK := K1.frozen
      have lK := K1.lt
      have hVV : V2 ≠ w.heap.size := by omega
      have K2' := arr_five K2 hVV (.int .i64 B.d) (.int .i64 B.n) (.int .i64 B.f) (.slice pa B.ps.length pc) (.slice na B.ns.length nc)
      have d0 := K2'.cell 0
      simp at d0
      have fV := K2'.frozen
      have HK1 : Hid _ := (arr_set5 K1 (.int .i64 B.d) (.int .i64 B.n) (.int .i64 B.f) (.slice pa B.ps.length pc) (.slice na B.ns.length nc)).other ⟨V2, 0, none⟩ (.bool true) (by show w.heap.size ≠ V2; omega)
      have HK2 : Hid _ := K2'.set 0 (.bool true)
      have HO5 : Hid _ := own_cellP (j := 0) (u := .bool true) (own_set5 HOr.out K1 (by decide) (.int .i64 B.d) (.int .i64 B.n) (.int .i64 B.f) (.slice pa B.ps.length pc) (.slice na B.ns.length nc)) K2' (by decide)
      have HN5 : Hid _ := own_cellP (j := 0) (u := .bool true) (own_set5 HNr.out K1 (by decide) (.int .i64 B.d) (.int .i64 B.n) (.int .i64 B.f) (.slice pa B.ps.length pc) (.slice na B.ns.length nc)) K2' (by decide)
      have HP5 : Hid (Prts _ _ _ _) := (HPr.out.set5 K1 (by decide) (.int .i64 B.d) (.int .i64 B.n) (.int .i64 B.f) (.slice pa B.ps.length pc) (.slice na B.ns.length nc)).cell (j := 0) (u := .bool true) K2' (by decide)
      have HBl : Hid (Below _ _ _) := (bel_five BY (Nat.le_refl _) (.int .i64 B.d) (.int .i64 B.n) (.int .i64 B.f) (.slice pa B.ps.length pc) (.slice na B.ns.length nc)).setCell (p := ⟨V2, 0, none⟩) (by show w.heap.size ≤ V2; omega) (.bool true)
      have HYes : Hid (rdB xs = (B, true)) := rdB_yes HRB.out (by omega) HOk.out
      clear K1 K2 K2' BY HEY HOr HNr HPr HRB HOk
      go_wp2
      refine leaves_cons (f := 63) (args := #[.pointer (some ⟨w.heap.size, 0, none⟩), .pointer (some ⟨V2, 0, none⟩)]) (by simp) (by simp [go_sem]) ?_
      refine (catchIdle w.heap.size V2 _).mono ?_
      rintro e u' w'' ⟨rfl, rfl, rfl⟩
      refine ⟨_, results_two rfl _ _ w.heap.size V2 _ true rfl rfl HK1.out HK2.out (by kernel_rfl), ?_⟩
      unfold RdAns
      rw [HYes.out]
      exact ⟨pa, pc, na, nc, ll, rfl, HO5.out, HP5.out, HN5.out, HBl.out⟩
  · have hqI : ((q : Int) == (n : Int)) = false := by simp; omega
    have hqN : ((q : Int) = (n : Int)) = False := by simp; omega
    go_wp2_with fail
    refine (rdWant R false _ HEY.out).mono ?_
    rintro e w2 ⟨rfl, ⟨h, _⟩ | ⟨_, ⟨T, pv, rfl⟩⟩⟩
    case inl => cases h
    exact deadEnd (rdB_no HRB.out (fun h => hqn (by omega))) K1 K2 HV2.out BY rfl rfl
end Go.Proofs.YtofflhhlacdgfaaDoor

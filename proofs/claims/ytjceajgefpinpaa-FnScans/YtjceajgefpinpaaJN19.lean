/-
  What is proved here: what the program's Fold answers; records that may all be, as a list.
-/
import Derived.Test.YtjceajgefpinpaaC1b
import Derived.Test.YtjceajgefpinpaaC1a
import Derived.Test.YtjceajgefpinpaaC0z
import Derived.Scope
namespace Go.Proofs.Ytjceajgefpinpaa
open Go.RowKit Go.Shelf
set_option maxRecDepth 100000
set_option maxHeartbeats 4000000
set_option linter.unusedVariables false
attribute [local go_sem] Oper.semAt_some

abbrev brk (x : Nat × Rc) : Prop := (x.1 = 0 ∧ x.2.k ≠ 1) ∨ (x.1 = 1 ∧ x.2.k ≠ 2)
def bodS (s : Bt) (x : Nat × Rc) : Bt := if x.1 = 1 then ⟨x.2.b, x.2.n, x.2.f, false, 0, 0⟩ else if 1 < x.1 then (stepT s x.2).1 else s
def fbS (pre : List (Nat × Rc)) : Bt := pre.foldl bodS bz
theorem fbS_snoc (pre : List (Nat × Rc)) (x : Nat × Rc) : fbS (pre ++ [x]) = bodS (fbS pre) x := by simp [fbS]
/-- Where the loop of Fold stands. -/
structure FI (w : World) (P1 P2 S : Nat) (pre : List (Nat × Rc)) (W : World) : Prop where
  q : Arr W w.heap.size 35 (btC bz)
  s : Arr W P1 35 (btC (fbS pre))
  d : Arr W P2 3 [.int .i64 (pre.length : Int)]
  b : Below w.heap.size w W
  nb : ∀ x ∈ pre, ¬ brk x
  z : S ≤ W.heap.size
theorem arr_grown {A B : World} {g t : Nat} {cs : List Value} {row : Option Nat} (h : Arr A g t cs) (hg : A.grownBy B row) (hr : some g ≠ row) : Arr B g t cs := (hg.block g h.lt hr).trans h
theorem FI.own {w : World} {P1 P2 S : Nat} (h0 : w.heap.size < S) (h1 : P1 < S) (h2 : P2 < S) : OwnFrom S (FI w P1 P2 S) := fun s A B row h hg hr => by
  have ne : ∀ g, g < S → some g ≠ row := fun g hgS e => by have := (hr g e.symm).1; omega
  exact ⟨arr_grown h.q hg (ne _ h0), arr_grown h.s hg (ne _ h1), arr_grown h.d hg (ne _ h2), h.b.grown hg h.b.size (fun k e => by have := (hr k e).1; omega), h.nb, Nat.le_trans h.z hg.size⟩
theorem keeps_bel {W W' : World} (B : Nat) (h : Below W.heap.size W W') : KeepsFrom B W W' := ⟨h.size, fun k o _ hk _ => (h.block k (Array.getElem?_eq_some_iff.1 hk).1).trans hk⟩
theorem keeps_set {B : Nat} {W W' : World} (h : KeepsFrom B W W') (p : Addr) (v : Value) : KeepsFrom B W (W'.setCell p v) := h.trans ((KeepsOthers.setCell _ _ _).from _)
theorem keeps_set6 {B g : Nat} {W W' : World} (h : KeepsFrom B W W') (a b c d e f : Value) : KeepsFrom B W ((((((W'.setCell ⟨g, 0, none⟩ a).setCell ⟨g, 1, none⟩ b).setCell ⟨g, 2, none⟩ c).setCell ⟨g, 3, none⟩ d).setCell ⟨g, 4, none⟩ e).setCell ⟨g, 5, none⟩ f) :=
  keeps_set (keeps_set (keeps_set (keeps_set (keeps_set (keeps_set h _ _) _ _) _ _) _ _) _ _) _ _
theorem other6 {W : World} {g k : Nat} {t : TypeId} {cs : List Value} (h : Arr W k t cs) (hne : k ≠ g) (a b c d e f : Value) : Arr ((((((W.setCell ⟨g, 0, none⟩ a).setCell ⟨g, 1, none⟩ b).setCell ⟨g, 2, none⟩ c).setCell ⟨g, 3, none⟩ d).setCell ⟨g, 4, none⟩ e).setCell ⟨g, 5, none⟩ f) k t cs :=
  (((((h.other ⟨g, 0, none⟩ _ hne).other ⟨g, 1, none⟩ _ hne).other ⟨g, 2, none⟩ _ hne).other ⟨g, 3, none⟩ _ hne).other ⟨g, 4, none⟩ _ hne).other ⟨g, 5, none⟩ _ hne
theorem wpIn_scope_wide {n : Nat} {P : Program} {c : Code} {Q : Exit → Act → World → Prop} {a : Act} {w : World} (h : c.wpIn Fence.wide n P (Exit.noGoto Q) a w) : (Code.scope c).wpIn Fence.wide n P Q a w :=
  wpIn_wide.2 (wp_scope_straight (wpIn_wide.1 h))
/-- What Fold answers where all has come. -/
theorem fold_done {l : List Rc} {k : Nat} (hk : k ≤ l.length) (h32 : l.length ≤ 32) (ho : ∀ i, i < k → (rg l i).Ok) (he : k = l.length ∨ ¬ (rg l k).Ok) (nb : ∀ x ∈ sq l k, ¬ brk x) :
    foT l = if k < l.length ∨ k ≤ 1 then (bz, false) else (fbS (sq l k), true) := by
  unfold foT
  by_cases hkl : k < l.length
  · rw [if_pos (show k < l.length ∨ k ≤ 1 from .inl hkl)]
    refine if_neg ?_
    rintro ⟨_, ha⟩
    rcases he with he | he
    · omega
    · exact he (ha k hkl)
  · have hkl : k = l.length := by omega
    have ha : foAll l := fun i hi => ho i (by omega)
    rw [if_pos ⟨h32, ha⟩]
    unfold foL
    by_cases h1 : k ≤ 1
    · rw [if_pos (show k < l.length ∨ k ≤ 1 from .inr h1)]
      exact if_neg (fun g : foGood l => by have := g.1; omega)
    · have hm : ∀ i, i < k → (i, rg l i) ∈ sq l k := fun i hi => by unfold sq; exact List.mem_map.2 ⟨i, List.mem_range.2 hi, rfl⟩
      have g0 : (rg l 0).k = 1 := Classical.byContradiction fun h => nb _ (hm 0 (by omega)) (.inl ⟨rfl, h⟩)
      have g1 : (rg l 1).k = 2 := Classical.byContradiction fun h => nb _ (hm 1 (by omega)) (.inr ⟨rfl, h⟩)
      have hg : foGood l := ⟨by omega, g0, g1⟩
      rw [if_pos hg, if_neg (show ¬ (k < l.length ∨ k ≤ 1) by omega)]
      have key : ∀ j, j + 2 ≤ l.length → fbS (sq l (j + 2)) = foS l j := by
        intro j
        induction j with
        | zero =>
          intro _
          rw [sq_succ, sq_succ, fbS_snoc, fbS_snoc]
          rfl
        | succ j ih =>
          intro hj
          rw [show j + 1 + 2 = (j + 2) + 1 by omega, sq_succ, fbS_snoc, ih (by omega)]
          unfold bodS
          simp only [show ¬ (j + 2 = 1) by omega, show 1 < j + 2 by omega, if_true, if_false]
          unfold stepT
          rw [if_pos ⟨foS_ok ha hg j (by omega), ha (j + 2) (by omega)⟩]
          rfl
      have := key (l.length - 2) (by omega)
      rw [show l.length - 2 + 2 = k by omega] at this
      rw [this]
/-- What Fold answers where it broke off. -/
theorem fold_stop {l : List Rc} {k : Nat} (hk : k < l.length) {pre : List (Nat × Rc)} {x : Nat × Rc} (e : sq l (k + 1) = pre ++ [x]) (hb : brk x) : foT l = (bz, false) ∧ pre.length = k := by
  rw [sq_succ] at e
  obtain ⟨e1, e2⟩ := List.append_inj' e rfl
  simp only [List.cons.injEq, and_true] at e2
  subst e1 e2
  refine ⟨?_, sq_len _ _⟩
  unfold foT foL
  simp only [brk] at hb
  have : ¬ foGood l := fun g => by
    rcases hb with ⟨rfl, h⟩ | ⟨rfl, h⟩
    · exact h g.2.1
    · exact h g.2.2
  rw [if_neg this]
  split <;> rfl

theorem implFold (a : Option Addr) (n c : Nat) (l : List Rc) (w : World) (h : Rs w a n c l) (hn : n ≤ 1048576) :
    Calls Try.prog 18 #[.slice a n c] w fun e w' => e = .returned (stV (foT l)) ∧ Below w.heap.size w w' := by
  have hl := h.2.1
  refine (callsIn_wide (n := 3)).1 ?_
  refine callsIn_of_wp_marks Try.func18 rfl trivial ?_ rfl
  simp only [Try.ntmps18, List.size_toArray, List.length_cons, List.length_nil, Nat.reduceAdd, Nat.reduceSub, Array.replicate_succ, Array.replicate_zero, List.push_toArray, List.append_toArray, List.nil_append, List.cons_append]
  by_cases h32 : (32 : Int) < (n : Int)
  · have HS : Hid (foT l = (bz, false)) := if_neg (fun g : _ ∧ _ => by have := g.1; omega)
    have HB : Hid (∀ o : Obj, Below w.heap.size w (w.alloc o)) := fun o => (Below.refl _ _).alloc (Nat.le_refl _) _
    gi_wp2
    refine wpIn_scope_wide ?_
    gi_wp2
    exact ⟨_, results_row_tmp (v := .bool false) (t := 35) (cs := [.int .i64 0, .int .i64 0, .int .i64 0, .bool false, .int .i64 0, .int .i64 0]) rfl rfl rfl (Arr.new _ _ _) Try.underlying35 rfl (by kernel_rfl), by rw [HS.out], HB.out _⟩
  obtain ⟨W0, hW0⟩ : ∃ W0, W0 = ((w.alloc (.cells #[.int .i64 0, .int .i64 0, .int .i64 0, .bool false, .int .i64 0, .int .i64 0] 35)).alloc (.cells #[.int .i64 0, .int .i64 0, .int .i64 0, .bool false, .int .i64 0, .int .i64 0] 35)).alloc (.cells #[.int .i64 0] 3) := ⟨_, rfl⟩
  have B0 : Below w.heap.size w W0 := by rw [hW0]; exact (((Below.refl _ _).alloc (Nat.le_refl _) _).alloc (by simp) _).alloc (by simp; omega) _
  have Q0 : Arr W0 w.heap.size 35 [.int .i64 0, .int .i64 0, .int .i64 0, .bool false, .int .i64 0, .int .i64 0] := by rw [hW0]; exact ((Arr.new w [.int .i64 0, .int .i64 0, .int .i64 0, .bool false, .int .i64 0, .int .i64 0] 35).alloc (.cells #[.int .i64 0, .int .i64 0, .int .i64 0, .bool false, .int .i64 0, .int .i64 0] 35)).alloc (.cells #[.int .i64 0] 3)
  have S0 : Arr W0 (w.heap.size + 1) 35 [.int .i64 0, .int .i64 0, .int .i64 0, .bool false, .int .i64 0, .int .i64 0] := by rw [hW0]; have := (Arr.new (w.alloc (.cells #[.int .i64 0, .int .i64 0, .int .i64 0, .bool false, .int .i64 0, .int .i64 0] 35)) [.int .i64 0, .int .i64 0, .int .i64 0, .bool false, .int .i64 0, .int .i64 0] 35).alloc (.cells #[.int .i64 0] 3); rw [World.size_alloc] at this; exact this
  have D0 : Arr W0 (w.heap.size + 1 + 1) 3 [.int .i64 0] := by rw [hW0]; have := Arr.new ((w.alloc (.cells #[.int .i64 0, .int .i64 0, .int .i64 0, .bool false, .int .i64 0, .int .i64 0] 35)).alloc (.cells #[.int .i64 0, .int .i64 0, .int .i64 0, .bool false, .int .i64 0, .int .i64 0] 35)) [.int .i64 0] 3; rw [World.size_alloc, World.size_alloc] at this; exact this
  have z0 : w.heap.size + 1 + 1 < W0.heap.size := D0.lt
  gi_wp2
  refine wpIn_scope_wide ?_
  gi_wp2
  refine wpIn_label ?_
  gi_wp2
  rw [← hW0]
  clear hW0
  refine ⟨trivial, (callsIn_wide.2 (implMay a n c W0)).mono ?_⟩
  rintro e w1 ⟨rfl, hp1, hs1, hb1⟩
  have B1 := B0.trans (hb1.mono B0.size)
  replace Q0 := Q0.kept hb1
  replace S0 := S0.kept hb1
  replace D0 := D0.kept hb1
  gi_wp2_with fail
  generalize hP1 : w.heap.size + 1 = P1 at S0 D0 z0 ⊢
  generalize hP2 : P1 + 1 = P2 at D0 z0 ⊢
  generalize hP3 : W0.heap.size = P3 at hp1 hs1 z0 hb1 B0 ⊢
  have n1 : w.heap.size < P1 ∧ P1 < P2 ∧ P2 < P3 ∧ P3 < w1.heap.size := by omega
  clear hP1 hP2 hP3 z0 hs1 hb1
  refine wpIn_rangeFunc_ownH (n := 3) rfl (by omega) (gf := 77) (lb := #[.pointer (some ⟨P3, 0, none⟩)]) rfl trivial (enters_of Try.func77 (by kernel_rfl) rfl)
    (mayStops (3 - 1) P3 a n c l w w1 h hn B1 hp1) belowK_t (belowK_b (by omega)) (Below.refl _ _) (fun _ => rfl)
    (FI w P1 P2 w1.heap.size) (fun cd pre W => cd = .exit 0 ∧ ∃ pre' x, pre = pre' ++ [x] ∧ brk x ∧ FI w P1 P2 w1.heap.size pre' W)
    (FI.own (by omega) (by omega) (by omega))
    (fun cd s A B row hs hg hr => by obtain ⟨e, p', x, e1, e2, hf⟩ := hs; exact ⟨e, p', x, e1, e2, FI.own (by omega) (by omega) (by omega) p' A B row hf hg hr⟩)
    ⟨Q0, S0, D0, B1, (fun _ h => by cases h), Nat.le_refl _⟩
    (fun x a' W => ∃ Bx, w1.heap.size ≤ Bx ∧ Arr W Bx 29 (rcC x.2) ∧ a' = { tmps := #[.slice a n c, undef, .pointer (some ⟨w.heap.size, 0, none⟩), .bool false, .pointer (some ⟨P1, 0, none⟩), .pointer (some ⟨P2, 0, none⟩), .int .i64 (x.1 : Int), .pointer (some ⟨Bx, 0, none⟩), .slice a n c, .int .i64 n, .bool (decide ((32 : Int) < (n : Int))), undef, .slice a n c, .func (.func 77) #[] #[.pointer (some ⟨P3, 0, none⟩)], .int .i64 (x.1 : Int), rcV x.2.k x.2.b x.2.n x.2.f, undef, undef, undef, undef, undef, undef, undef, undef, undef, undef, undef, undef, undef, undef, undef, undef, undef, undef, undef, undef, undef, undef, undef, undef, undef, undef, undef, undef, undef, undef, undef, undef, undef, undef, undef, undef, undef, undef, undef, undef, undef, undef, undef, undef, undef, undef], defers := [] })
    (fun x a' _ X Y row hs hg hr => by
      obtain ⟨Bx, g1, g2, g3⟩ := hs
      refine ⟨Bx, g1, arr_grown g2 hg (fun e => ?_), g3⟩
      obtain ⟨_, o, ho, hcl⟩ := hr Bx e.symm
      rw [show X.heap[Bx]? = _ from g2] at ho
      cases ho
      cases hcl)
    ?assign ?body ?done ?stop
  case assign =>
    rintro lp pre x W K hi hK
    have hz := hi.b.size
    have hO := (FI.own (w := w) (P1 := P1) (P2 := P2) (S := w1.heap.size) (by omega) (by omega) (by omega)).alloc (.cells (rcC x.2).toArray 29) hi
    have hA := Arr.new W (rcC x.2) 29
    have hzz := hi.z
    obtain ⟨p, rk, rb, rn, rf⟩ := x
    gi_wp2
    exact hK _ _ ((KeepsOthers.alloc _ _).from _) ((Below.refl _ W).alloc hz _) hO ⟨W.heap.size, hzz, hA, rfl⟩
  case body =>
    rintro lp pre x a' W hlp _ hi ⟨Bx, hBx, hA, rfl⟩ hlen
    have HNB : Hid _ := hi.nb
    have hz := hi.b.size
    have HZ : Hid _ := hi.z
    obtain ⟨Q, S, D, B, _, _⟩ := hi
    have HE : Hid (∀ y, fbS (pre ++ [y]) = bodS (fbS pre) y) := fun y => fbS_snoc pre y
    have HLE : Hid (∀ y : Nat × Rc, ((pre ++ [y]).length : Int) = (pre.length : Int) + 1) := fun y => by simp
    obtain ⟨m, hm⟩ : ∃ m, m = pre.length := ⟨_, rfl⟩
    rw [← hm] at D hlen
    have hw : IntKind.i64.wrap ((m : Int) + 1) = (m : Int) + 1 := wr64 (by omega) (by omega)
    have HM : Hid _ := hm
    clear hm
    obtain ⟨s, es⟩ : ∃ s, s = fbS pre := ⟨_, rfl⟩
    rw [← es] at S
    have ES : Hid _ := es
    clear es
    obtain ⟨p, rk, rb, rn, rf⟩ := x
    dsimp only at hA ⊢
    obtain ⟨r0, r1, r2, r3⟩ : W.cell? ⟨Bx, 0, none⟩ = some (.int .i64 rk) ∧ W.cell? ⟨Bx, 1, none⟩ = some (.int .i64 rb) ∧ W.cell? ⟨Bx, 2, none⟩ = some (.int .i64 rn) ∧ W.cell? ⟨Bx, 3, none⟩ = some (.int .i64 rf) := ⟨hA.cell 0, hA.cell 1, hA.cell 2, hA.cell 3⟩
    have n2 : w.heap.size ≠ P1 ∧ w.heap.size ≠ P2 ∧ P1 ≠ P2 := by omega
    have HFin : Hid (∀ (Y : World) (s' : Bt), bodS s (p, ⟨rk, rb, rn, rf⟩) = s' → ¬ brk (p, ⟨rk, rb, rn, rf⟩) → Arr Y w.heap.size 35 (btC bz) → Arr Y P1 35 (btC s') → Arr Y P2 3 [.int .i64 ((m : Int) + 1)] → Below w.heap.size w Y → w1.heap.size ≤ Y.heap.size → FI w P1 P2 w1.heap.size (pre ++ [(p, ⟨rk, rb, rn, rf⟩)]) Y) := by
      intro Y s' e1 e2 q1 q2 q3 q4 q5
      refine ⟨q1, ?_, ?_, q4, ?_, q5⟩
      · rw [HE.out, ← ES.out, e1]; exact q2
      · rw [HLE.out, ← HM.out]; exact q3
      · intro y hy
        rcases List.mem_append.1 hy with hy | hy
        · exact HNB.out y hy
        · simp only [List.mem_singleton] at hy; subst hy; exact e2
    have HStop : Hid (brk (p, ⟨rk, rb, rn, rf⟩) → (∃ pre' x, pre ++ [(p, ⟨rk, rb, rn, rf⟩)] = pre' ++ [x] ∧ brk x ∧ FI w P1 P2 w1.heap.size pre' W)) := fun hb => ⟨pre, _, rfl, hb, Q, by rw [← ES.out]; exact S, by rw [← HM.out]; exact D, B, HNB.out, HZ.out⟩
    have dd := D.cell 0
    simp at dd
    have fD := D.frozen
    have lD := D.lt
    have hp : p = 0 ∨ p = 1 ∨ 1 < p := by omega
    rcases hp with rfl | rfl | hp
    · by_cases hk : rk = 1
      · have hk' : (rk != 1) = false := by simpa using hk
        have G1 : Hid _ := HFin.out (W.setCell ⟨P2, 0, none⟩ (.int .i64 ((m : Int) + 1))) s rfl (by simp [brk, hk]) (Q.other _ _ n2.2.1) (S.other _ _ n2.2.2) (D.set 0 _) (B.setCell (p := ⟨P2, 0, none⟩) (show w.heap.size ≤ P2 by omega) _) (by simpa using HZ.out)
        have G2 : Hid _ := (Below.refl w.heap.size W).setCell (p := ⟨P2, 0, none⟩) (show w.heap.size ≤ P2 by omega) (.int .i64 ((m : Int) + 1))
        clear HFin hk Q S D B
        gi_wp2
        exact ⟨(KeepsOthers.setCell _ _ _).from _, G2.out, G1.out⟩
      · have hk' : (rk != 1) = true := by simpa using hk
        have G1 : Hid _ := HStop.out (.inl ⟨rfl, hk⟩)
        clear HFin hk Q S D B
        gi_wp2
        exact ⟨KeepsFrom.refl _ _, rfl, G1.out⟩
    · by_cases hk : rk = 2
      · have hk' : (rk != 2) = false := by simpa using hk
        have G1 : Hid _ := HFin.out (((((((W.setCell ⟨P1, 0, none⟩ (.int .i64 rb)).setCell ⟨P1, 1, none⟩ (.int .i64 rn)).setCell ⟨P1, 2, none⟩ (.int .i64 rf)).setCell ⟨P1, 3, none⟩ (.bool false)).setCell ⟨P1, 4, none⟩ (.int .i64 0)).setCell ⟨P1, 5, none⟩ (.int .i64 0)).setCell ⟨P2, 0, none⟩ (.int .i64 ((m : Int) + 1))) ⟨rb, rn, rf, false, 0, 0⟩ rfl (by simp [brk, hk])
          ((other6 Q n2.1 _ _ _ _ _ _).other _ _ n2.2.1) ((set6 S _ _ _ _ _ _).other _ _ n2.2.2) ((other6 D n2.2.2.symm _ _ _ _ _ _).set 0 _) ((bel_set6 B (show w.heap.size ≤ P1 by omega) _ _ _ _ _ _).setCell (p := ⟨P2, 0, none⟩) (show w.heap.size ≤ P2 by omega) _) (by simpa using HZ.out)
        have G2 : Hid _ := (bel_set6 (Below.refl w.heap.size W) (show w.heap.size ≤ P1 by omega) (.int .i64 rb) (.int .i64 rn) (.int .i64 rf) (.bool false) (.int .i64 0) (.int .i64 0)).setCell (p := ⟨P2, 0, none⟩) (show w.heap.size ≤ P2 by omega) (.int .i64 ((m : Int) + 1))
        have G3 : Hid _ := keeps_set (keeps_set6 (g := P1) (KeepsFrom.refl w1.heap.size W) (.int .i64 rb) (.int .i64 rn) (.int .i64 rf) (.bool false) (.int .i64 0) (.int .i64 0)) ⟨P2, 0, none⟩ (.int .i64 ((m : Int) + 1))
        have D2 := other6 D n2.2.2.symm (.int .i64 rb) (.int .i64 rn) (.int .i64 rf) (.bool false) (.int .i64 0) (.int .i64 0)
        have dd2 := D2.cell 0
        simp at dd2
        have fD2 := D2.frozen
        have lD2 := D2.lt
        have s0 := S.cell 0
        have s1 := S.cell 1
        have s2 := S.cell 2
        have s3 := S.cell 3
        have s4 := S.cell 4
        have s5 := S.cell 5
        simp at s0 s1 s2 s3 s4 s5
        have fS := S.frozen
        have lS := S.lt
        clear HFin hk Q D B D2
        gi_wp2
        exact ⟨G3.out, G2.out, G1.out⟩
      · have hk' : (rk != 2) = true := by simpa using hk
        have G1 : Hid _ := HStop.out (.inr ⟨rfl, hk⟩)
        clear HFin hk Q S D B
        gi_wp2
        exact ⟨KeepsFrom.refl _ _, rfl, G1.out⟩
    · have hp0 : ((p : Int) == 0) = false := by simp; omega
      have hp1' : ((p : Int) == 1) = false := by simp; omega
      have hp2 : (1 : Int) < (p : Int) := by omega
      obtain ⟨⟨xb, xn, xf, xt, xi, xo⟩, xok, hX⟩ : ∃ t ok, stepT s ⟨rk, rb, rn, rf⟩ = (t, ok) := ⟨_, _, rfl⟩
      have HX : Hid (bodS s (p, ⟨rk, rb, rn, rf⟩) = ⟨xb, xn, xf, xt, xi, xo⟩) := by
        unfold Hid bodS
        dsimp only
        rw [if_neg (by omega), if_pos hp, hX]
      have HB : Hid (¬ brk (p, ⟨rk, rb, rn, rf⟩)) := by
        rintro (⟨h, _⟩ | ⟨h, _⟩)
        · dsimp only at h; omega
        · dsimp only at h; omega
      obtain ⟨sb, sn, sf, st, si, so⟩ := s
      have HC : Hid (Calls Try.prog 39 #[btV sb sn sf st si so, rcV rk rb rn rf] W fun e w' => e = .returned (.tuple #[btV xb xn xf xt xi xo, .bool xok]) ∧ Below W.heap.size W w') := by
        have := implStep sb sn sf st si so rk rb rn rf W
        rw [hX] at this
        exact this
      clear hX hp
      have s0 := S.cell 0
      have s1 := S.cell 1
      have s2 := S.cell 2
      have s3 := S.cell 3
      have s4 := S.cell 4
      have s5 := S.cell 5
      simp at s0 s1 s2 s3 s4 s5
      gi_wp2
      refine ⟨trivial, (CallsIn.inRound lp (callsIn_wide.2 HC.out)).mono ?_⟩
      rintro e W2 ⟨rfl, hb2⟩
      replace Q := Q.kept hb2
      replace S := S.kept hb2
      replace D := D.kept hb2
      have B2 := B.trans (hb2.mono B.size)
      have bW : Below w.heap.size W W2 := hb2.mono hz
      have kW : KeepsFrom w1.heap.size W W2 := keeps_bel _ hb2
      have hZ2 : w1.heap.size ≤ W2.heap.size := Nat.le_trans HZ.out hb2.size
      clear s0 s1 s2 s3 s4 s5 dd fD lD r0 r1 r2 r3
      have G1 : Hid _ := HFin.out (((((((W2.setCell ⟨P1, 0, none⟩ (.int .i64 xb)).setCell ⟨P1, 1, none⟩ (.int .i64 xn)).setCell ⟨P1, 2, none⟩ (.int .i64 xf)).setCell ⟨P1, 3, none⟩ (.bool xt)).setCell ⟨P1, 4, none⟩ (.int .i64 xi)).setCell ⟨P1, 5, none⟩ (.int .i64 xo)).setCell ⟨P2, 0, none⟩ (.int .i64 ((m : Int) + 1))) ⟨xb, xn, xf, xt, xi, xo⟩ HX.out HB.out
        ((other6 Q n2.1 _ _ _ _ _ _).other _ _ n2.2.1) ((set6 S _ _ _ _ _ _).other _ _ n2.2.2) ((other6 D n2.2.2.symm _ _ _ _ _ _).set 0 _) ((bel_set6 B2 (show w.heap.size ≤ P1 by omega) _ _ _ _ _ _).setCell (p := ⟨P2, 0, none⟩) (show w.heap.size ≤ P2 by omega) _) (by simpa using hZ2)
      have G2 : Hid _ := (bel_set6 bW (show w.heap.size ≤ P1 by omega) (.int .i64 xb) (.int .i64 xn) (.int .i64 xf) (.bool xt) (.int .i64 xi) (.int .i64 xo)).setCell (p := ⟨P2, 0, none⟩) (show w.heap.size ≤ P2 by omega) (.int .i64 ((m : Int) + 1))
      have G3 : Hid _ := keeps_set (keeps_set6 (g := P1) kW (.int .i64 xb) (.int .i64 xn) (.int .i64 xf) (.bool xt) (.int .i64 xi) (.int .i64 xo)) ⟨P2, 0, none⟩ (.int .i64 ((m : Int) + 1))
      have D2 := other6 D n2.2.2.symm (.int .i64 xb) (.int .i64 xn) (.int .i64 xf) (.bool xt) (.int .i64 xi) (.int .i64 xo)
      have dd2 := D2.cell 0
      simp at dd2
      have fD2 := D2.frozen
      have lD2 := D2.lt
      have s0 := S.cell 0
      have s1 := S.cell 1
      have s2 := S.cell 2
      have s3 := S.cell 3
      have s4 := S.cell 4
      have s5 := S.cell 5
      simp at s0 s1 s2 s3 s4 s5
      have fS := S.frozen
      have lS := S.lt
      clear HFin Q D B D2 HC hb2 bW kW B2
      gi_wp2
      exact ⟨G3.out, G2.out, G1.out⟩
  case done =>
    rintro DD ys W hDD ⟨k, hk, rfl, ho, he⟩ hi hK
    have HF : Hid _ := fold_done (l := l) (k := k) (by omega) (by omega) ho (by rw [hl]; exact he) hi.nb
    obtain ⟨Q, S, D, B, _, hz⟩ := hi
    rw [sq_len] at D
    obtain ⟨s, es⟩ : ∃ s, s = fbS (sq l k) := ⟨_, rfl⟩
    rw [← es] at S HF
    rw [hl] at HF
    clear es ho he
    obtain ⟨sb, sn, sf, st, si, so⟩ := s
    have dd := D.cell 0
    simp at dd
    have s0 := S.cell 0
    have s1 := S.cell 1
    have s2 := S.cell 2
    have s3 := S.cell 3
    have s4 := S.cell 4
    have s5 := S.cell 5
    simp at s0 s1 s2 s3 s4 s5
    have q0 := Q.cell 0
    have q1 := Q.cell 1
    have q2 := Q.cell 2
    have q3 := Q.cell 3
    have q4 := Q.cell 4
    have q5 := Q.cell 5
    simp at q0 q1 q2 q3 q4 q5
    have fQ := Q.frozen
    have lQ := Q.lt
    by_cases hlt : (k : Int) < (n : Int)
    · have HS : Hid (foT l = (bz, false)) := HF.out.trans (if_pos (.inl (by omega)))
      have GK : Hid _ := set6 Q (.int .i64 0) (.int .i64 0) (.int .i64 0) (.bool false) (.int .i64 0) (.int .i64 0)
      have GB : Hid _ := bel_set6 B (Nat.le_refl w.heap.size) (.int .i64 0) (.int .i64 0) (.int .i64 0) (.bool false) (.int .i64 0) (.int .i64 0)
      have GD : Hid _ := (keeps_set6 (g := w.heap.size) (KeepsFrom.refl w1.heap.size W) (.int .i64 0) (.int .i64 0) (.int .i64 0) (.bool false) (.int .i64 0) (.int .i64 0)).same DD _ hDD hK rfl
      clear Q B S D
      gi_wp2
      refine ⟨by simp, .inl ⟨_, _, rfl, run_takeDeferred GD.out, ?_⟩⟩
      exact ⟨_, results_row_tmp (v := .bool false) (t := 35) (cs := [.int .i64 0, .int .i64 0, .int .i64 0, .bool false, .int .i64 0, .int .i64 0]) rfl rfl rfl ((World.putObj_heap_other (by omega)).trans GK.out) Try.underlying35 rfl (by kernel_rfl), by rw [HS.out], GB.out.trans (belowK_b (w := w) (Nat.le_refl _) _ DD _ _ (by omega) GD.out rfl rfl)⟩
    by_cases hle : (k : Int) ≤ 1
    · have HS : Hid (foT l = (bz, false)) := HF.out.trans (if_pos (.inr (by omega)))
      have GK : Hid _ := set6 Q (.int .i64 0) (.int .i64 0) (.int .i64 0) (.bool false) (.int .i64 0) (.int .i64 0)
      have GB : Hid _ := bel_set6 B (Nat.le_refl w.heap.size) (.int .i64 0) (.int .i64 0) (.int .i64 0) (.bool false) (.int .i64 0) (.int .i64 0)
      have GD : Hid _ := (keeps_set6 (g := w.heap.size) (KeepsFrom.refl w1.heap.size W) (.int .i64 0) (.int .i64 0) (.int .i64 0) (.bool false) (.int .i64 0) (.int .i64 0)).same DD _ hDD hK rfl
      clear Q B S D
      gi_wp2
      refine ⟨by simp, .inl ⟨_, _, rfl, run_takeDeferred GD.out, ?_⟩⟩
      exact ⟨_, results_row_tmp (v := .bool false) (t := 35) (cs := [.int .i64 0, .int .i64 0, .int .i64 0, .bool false, .int .i64 0, .int .i64 0]) rfl rfl rfl ((World.putObj_heap_other (by omega)).trans GK.out) Try.underlying35 rfl (by kernel_rfl), by rw [HS.out], GB.out.trans (belowK_b (w := w) (Nat.le_refl _) _ DD _ _ (by omega) GD.out rfl rfl)⟩
    · have HS : Hid (foT l = (⟨sb, sn, sf, st, si, so⟩, true)) := HF.out.trans (if_neg (by omega))
      have GK : Hid _ := set6 Q (.int .i64 sb) (.int .i64 sn) (.int .i64 sf) (.bool st) (.int .i64 si) (.int .i64 so)
      have GB : Hid _ := bel_set6 B (Nat.le_refl w.heap.size) (.int .i64 sb) (.int .i64 sn) (.int .i64 sf) (.bool st) (.int .i64 si) (.int .i64 so)
      have GD : Hid _ := (keeps_set6 (g := w.heap.size) (KeepsFrom.refl w1.heap.size W) (.int .i64 sb) (.int .i64 sn) (.int .i64 sf) (.bool st) (.int .i64 si) (.int .i64 so)).same DD _ hDD hK rfl
      clear Q B S D
      gi_wp2
      refine ⟨by simp, .inl ⟨_, _, rfl, run_takeDeferred GD.out, ?_⟩⟩
      exact ⟨_, results_row_tmp (v := .bool true) (t := 35) (cs := [.int .i64 sb, .int .i64 sn, .int .i64 sf, .bool st, .int .i64 si, .int .i64 so]) rfl rfl rfl ((World.putObj_heap_other (by omega)).trans GK.out) Try.underlying35 rfl (by kernel_rfl), by rw [HS.out], GB.out.trans (belowK_b (w := w) (Nat.le_refl _) _ DD _ _ (by omega) GD.out rfl rfl)⟩
  case stop =>
    rintro DD cd pre W hDD ⟨k, hk, rfl, ho⟩ ⟨rfl, pre', x, e, hb, hi⟩ hK
    obtain ⟨f1, f2⟩ := fold_stop (l := l) (by omega) e hb
    have HS : Hid _ := f1
    obtain ⟨Q, S, D, B, _, hz⟩ := hi
    rw [f2] at D
    clear f1 f2 e hb ho
    have dd := D.cell 0
    simp at dd
    have q0 := Q.cell 0
    have q1 := Q.cell 1
    have q2 := Q.cell 2
    have q3 := Q.cell 3
    have q4 := Q.cell 4
    have q5 := Q.cell 5
    simp at q0 q1 q2 q3 q4 q5
    have fQ := Q.frozen
    have lQ := Q.lt
    have hlt : (k : Int) < (n : Int) := by omega
    have GK : Hid _ := set6 Q (.int .i64 0) (.int .i64 0) (.int .i64 0) (.bool false) (.int .i64 0) (.int .i64 0)
    have GB : Hid _ := bel_set6 B (Nat.le_refl w.heap.size) (.int .i64 0) (.int .i64 0) (.int .i64 0) (.bool false) (.int .i64 0) (.int .i64 0)
    have GD : Hid _ := (keeps_set6 (g := w.heap.size) (KeepsFrom.refl w1.heap.size W) (.int .i64 0) (.int .i64 0) (.int .i64 0) (.bool false) (.int .i64 0) (.int .i64 0)).same DD _ hDD hK rfl
    clear Q B S D
    gi_wp2
    refine ⟨by simp, .inl ⟨_, _, rfl, run_takeDeferred GD.out, ?_⟩⟩
    exact ⟨_, results_row_tmp (v := .bool false) (t := 35) (cs := [.int .i64 0, .int .i64 0, .int .i64 0, .bool false, .int .i64 0, .int .i64 0]) rfl rfl rfl ((World.putObj_heap_other (by omega)).trans GK.out) Try.underlying35 rfl (by kernel_rfl), by rw [HS.out], GB.out.trans (belowK_b (w := w) (Nat.le_refl _) _ DD _ _ (by omega) GD.out rfl rfl)⟩
end Go.Proofs.Ytjceajgefpinpaa
namespace Go.Proofs.Ytjceajgefpinpaa
open Go.RowKit

theorem all_of : ∀ {l : List Rc}, (∀ r ∈ l, r.Ok) → foAll l := fun {l} h i hi => h _ (by unfold rg; rw [List.getD_eq_getElem?_getD, List.getElem?_eq_getElem hi]; exact List.getElem_mem hi)
end Go.Proofs.Ytjceajgefpinpaa

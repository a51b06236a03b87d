/-
  What is proved here: append onto a row of records that the call owns; the records of a summary as plain data; what the specification's Summary answers.
-/
import Derived.Test.YtjceajgefpinpaaC0n
import Derived.Test.YtjceajgefpinpaaC0l
import Derived.Test.YtjceajgefpinpaaApp
import Derived.Laws.AppendOwnNone
namespace Go.Proofs.Ytjceajgefpinpaa
open Go.RowKit
set_option maxRecDepth 100000
set_option maxHeartbeats 4000000
set_option linter.unusedVariables false

theorem FL_one : ∀ (xs : List Rc), ∀ u ∈ FL xs, u.oneCell' = true
  | [], u, h => by cases h
  | r :: t, u, h => by
    simp only [FL, List.mem_cons] at h
    rcases h with rfl | rfl | rfl | rfl | h
    · rfl
    · rfl
    · rfl
    · rfl
    · exact FL_one t u h
theorem rs_cells {w : World} {b o n : Nat} {ys : List Rc} (hl : ys.length = n) (h : ∀ i, i < n → Rat w b (o + i * 4) (rg ys i)) (j : Nat) (u : Value) (hj : (FL ys)[j]? = some u) : w.cell? ⟨b, o + j, none⟩ = some u := by
  have hjl : j < ys.length * 4 := by rw [← FL_len]; exact (List.getElem?_eq_some_iff.1 hj).1
  have hi : j / 4 < n := by omega
  obtain ⟨a0, a1, a2, a3⟩ := FL_get ys (j / 4) (by omega)
  obtain ⟨c0, c1, c2, c3⟩ := h (j / 4) hi
  have : j = j / 4 * 4 ∨ j = j / 4 * 4 + 1 ∨ j = j / 4 * 4 + 2 ∨ j = j / 4 * 4 + 3 := by omega
  rcases this with e | e | e | e
  · rw [e] at hj ⊢; rw [a0] at hj; rw [c0]; exact hj
  · rw [e] at hj ⊢; rw [a1] at hj; rw [show o + (j / 4 * 4 + 1) = o + j / 4 * 4 + 1 by omega, c1]; exact hj
  · rw [e] at hj ⊢; rw [a2] at hj; rw [show o + (j / 4 * 4 + 2) = o + j / 4 * 4 + 2 by omega, c2]; exact hj
  · rw [e] at hj ⊢; rw [a3] at hj; rw [show o + (j / 4 * 4 + 3) = o + j / 4 * 4 + 3 by omega, c3]; exact hj
theorem wpl_append_rs {w : World} {ops : Array Oper} {rest : List Oper} {o : Oper} {a : Act} {Q : Exit → Act → World → Prop} (hgd : o.guard = none) (s x : Operand)
    (ho : o.op = .call { callee := .builtin .append, args := #[s, x], argTypes := #[24, 24] })
    (base : Nat) (v : Value) (n : Nat) (xs : List Rc) (hs : a.eval s = v) (ao : Option Addr) (m c : Nat) (ys : List Rc) (hx : a.eval x = .slice ao m c)
    (hown : w.ownsRow base 29 4 v n (FL xs)) (hb : Rs w ao m c ys) (hlen : n + m ≤ 1048576) (hbase : base ≤ w.heap.size)
    (h : ∀ v' w', w'.ownsRow base 29 4 v' (n + m) (FL (xs ++ ys)) → w.grownBy w' v.ownBlock → wpList Try.prog ops Q rest (a.put o.dst v') w') :
    wpList Try.prog ops Q (o :: rest) a w := by
  obtain ⟨i0, hi, hz0, hz1, hz2⟩ := info_parts (show (Try.prog.info? 29).map (fun i => (i.zero, i.size, i.bytes)) = some (some (rcV 0 0 0 0), 4, 32) by kernel_rfl)
  obtain ⟨hcap, hl, hc, hb⟩ := hb
  cases ao with
  | none =>
    have hc0 := hcap rfl
    subst hc0
    have hm : m = 0 := by omega
    subst hm
    have hy : ys = [] := List.eq_nil_of_length_eq_zero hl
    subst hy
    exact wpList_append_own_none hgd s x 24 ho base 29 i0 4 Try.underlying24 hi v n (FL xs) hs hown hx
      (h v w (by simpa using hown) (World.grownBy.refl _ _))
  | some ad =>
    refine wpList_append_own w hgd s x 24 ho base 29 i0 (rcV 0 0 0 0) 4 32 Try.underlying24 hi hz0 hz1 hz2 rfl (by decide) v n (FL xs) hs hown ad m c (FL ys) hx (by rw [FL_len, hl]) ?_ (FL_one _)
      (by unfold maxLen; omega) (by omega) hbase ?_
    · rcases hb with hb | ⟨b, off, ha, _, hcell⟩
      · intro j u hj
        have hy : ys = [] := List.eq_nil_of_length_eq_zero (by omega)
        subst hy
        simp [FL] at hj
      · obtain rfl := Option.some.inj ha
        intro j u hj
        rw [Addr.add_lit]
        exact rs_cells hl hcell j u hj
    · intro v' w' h1 h2 _
      exact h v' w' (by rw [FL_app]; exact h1) h2
/-- One new record, as a slice. -/
theorem Rs.one (w : World) (r : Rc) : Rs (w.alloc (.cells (rcC r).toArray 29)) (some ⟨w.heap.size, 0, none⟩) 1 1 [r] := by
  have A := Arr.new w (rcC r) 29
  refine ⟨(fun h => by cases h), rfl, Nat.le_refl _, .inr ⟨w.heap.size, 0, rfl, by simp, ?_⟩⟩
  intro j hj
  have : j = 0 := by omega
  subst this
  exact ⟨A.cell 0, A.cell 1, A.cell 2, A.cell 3⟩

abbrev rTry : Rc := ⟨4, 0, 0, 0⟩
/-- The records of a summary. -/
def smR (b n f : Int) (t : Bool) (i o : Int) : List Rc := if t = false then [⟨2, b, n, f⟩] else [⟨2, 1 - b, o, f⟩, ⟨3, b, n, 0⟩] ++ List.replicate i.toNat rTry
def smL (b n f : Int) (t : Bool) (i o : Int) : List Rc := if btOk b n f t i o then smR b n f t i o else []

theorem specSummaryL (b n f : Int) (t : Bool) (i o : Int) (w : World) (hb : 0 ≤ b ∧ b ≤ 1) (hi : 0 ≤ i ∧ i ≤ 3) :
    Calls Try.prog 71 #[btV b n f t i o] w fun e w' => ∃ v, e = .returned v ∧ w'.ownsRow w.heap.size 29 4 v (smR b n f t i o).length (FL (smR b n f t i o)) ∧ Below w.heap.size w w' := by
  obtain ⟨L, hL⟩ : ∃ L, smR b n f t i o = L := ⟨_, rfl⟩
  rw [hL]
  unfold smR at hL
  obtain ⟨W, hW⟩ : ∃ W, W = w.alloc (.cells #[.int .i64 b, .int .i64 n, .int .i64 f, .bool t, .int .i64 i, .int .i64 o] 35) := ⟨_, rfl⟩
  have B : Below w.heap.size w W := by rw [hW]; exact (Below.refl _ _).alloc (Nat.le_refl _) _
  have A : Arr W w.heap.size 35 [.int .i64 b, .int .i64 n, .int .i64 f, .bool t, .int .i64 i, .int .i64 o] := by rw [hW]; exact Arr.new _ _ _
  have c0 := A.cell 0
  have c1 := A.cell 1
  have c2 := A.cell 2
  have c3 := A.cell 3
  have c4 := A.cell 4
  have c5 := A.cell 5
  simp at c0 c1 c2 c3 c4 c5
  have hw : IntKind.i64.wrap (1 - b) = 1 - b := wr64 (by omega) (by omega)
  go_enter Try.func71, Try.ntmps71
  go_upto_region 1 with fail
  rw [← hW]
  clear hW
  cases t
  · rw [if_pos rfl] at hL
    have HL : Hid _ := hL
    clear hL
    have HO : Hid _ := World.ownsRow_lit (base := w.heap.size) (e := 29) (size := 4) W (FL [⟨2, b, n, f⟩]).toArray 1 B.size (by unfold maxLen; omega) rfl
    have HB : Hid _ := B.alloc B.size (.cells (FL [⟨2, b, n, f⟩]).toArray 29)
    go_wp2
    go_ret
    rw [← HL.out]
    exact ⟨_, rfl, HO.out, HB.out⟩
  · rw [if_neg (by simp)] at hL
    have HL : Hid _ := hL
    clear hL
    obtain ⟨W1, hW1⟩ : ∃ W1, W1 = W.alloc (.cells (FL [⟨2, 1 - b, o, f⟩, ⟨3, b, n, 0⟩]).toArray 29) := ⟨_, rfl⟩
    have O1 : W1.ownsRow w.heap.size 29 4 (.slice (some ⟨W.heap.size, 0, none⟩) 2 2) 2 (FL [⟨2, 1 - b, o, f⟩, ⟨3, b, n, 0⟩]) := by
      rw [hW1]; exact World.ownsRow_lit W _ 2 B.size (by unfold maxLen; omega) rfl
    have b1 : Below W.heap.size W W1 := by rw [hW1]; exact (Below.refl _ _).alloc (Nat.le_refl _) _
    have hW1' : W1 = W.alloc (.cells #[.int .i64 2, .int .i64 (1 - b), .int .i64 o, .int .i64 f, .int .i64 3, .int .i64 b, .int .i64 n, .int .i64 0] 29) := hW1
    have zW : w.heap.size < W.heap.size := A.lt
    have A1 := A.kept b1
    have B1 := B.trans (b1.mono B.size)
    have O1' : W1.ownsRow W.heap.size 29 4 (.slice (some ⟨W.heap.size, 0, none⟩) 2 2) (2 + 0) (FL ([⟨2, 1 - b, o, f⟩, ⟨3, b, n, 0⟩] ++ List.replicate 0 rTry)) := by
      rw [hW1]; exact World.ownsRow_lit W _ 2 (Nat.le_refl _) (by unfold maxLen; omega) rfl
    have z1 : W.heap.size ≤ W1.heap.size := b1.size
    clear O1 hW1 A B b1
    obtain ⟨I, rfl⟩ : ∃ I : Nat, i = (I : Int) := ⟨i.toNat, by omega⟩
    obtain ⟨R0, hR0⟩ : ∃ R0 : List Rc, R0 = [⟨2, 1 - b, o, f⟩, ⟨3, b, n, 0⟩] := ⟨_, rfl⟩
    rw [← hR0] at O1' HL
    have HR0 : Hid (R0.length = 2) := by unfold Hid; rw [hR0]; rfl
    clear hR0
    go_wp2
    rw [← hW1']
    clear hW1' c0 c1 c2 c3 c4 c5
    go_loopw [3, 4] (fun v k wr => ∃ j : Nat, j ≤ I ∧ k = .int .i64 j ∧ wr.ownsRow W.heap.size 29 4 v (2 + j) (FL (R0 ++ List.replicate j rTry)) ∧ Below w.heap.size w wr ∧ Arr wr w.heap.size 35 [.int .i64 b, .int .i64 n, .int .i64 f, .bool true, .int .i64 I, .int .i64 o] ∧ W.heap.size ≤ wr.heap.size) (fun _ k _ => I - (intOf k).toNat)
    case atStart => exact ⟨0, by omega, rfl, O1', B1, A1, z1⟩
    case round =>
      clear O1' B1 A1 z1
      obtain ⟨j, hj, rfl, O, B, A, z⟩ := hrel
      have c4 := A.cell 4
      simp at c4
      by_cases hlt : j < I
      · have hltI : (j : Int) < (I : Int) := by omega
        have A2 := A.alloc (.cells #[.int .i64 4, .int .i64 0, .int .i64 0, .int .i64 0] 29)
        have HO : Hid _ := O.alloc (.cells #[.int .i64 4, .int .i64 0, .int .i64 0, .int .i64 0] 29)
        have H1 : Hid _ := Rs.one wr rTry
        have B2 := B.alloc B.size (.cells #[.int .i64 4, .int .i64 0, .int .i64 0, .int .i64 0] 29)
        clear O A B
        go_wp2_with (at_builtin; refine wpl_append_rs rfl _ _ rfl W.heap.size _ (2 + j) (R0 ++ List.replicate j rTry) rfl (some ⟨wr.heap.size, 0, none⟩) 1 1 [rTry] rfl HO.out H1.out ?_ ?_ ?_)
        · omega
        · simp; omega
        intro v2 w2 O2 g2
        have O3 : w2.ownsRow W.heap.size 29 4 v2 (2 + (j + 1)) (FL (R0 ++ List.replicate (j + 1) rTry)) := by
          rw [List.replicate_succ']; exact O2
        have hne : ∀ k, Value.ownBlock _ = some k → W.heap.size ≤ k := fun k hk => (World.ownsRow.lt HO.out k hk).1
        have B3 : Below w.heap.size w w2 := B2.grown g2 (by simp; omega) (fun k hk => by have := hne k hk; omega)
        have A3 : Arr w2 w.heap.size 35 [.int .i64 b, .int .i64 n, .int .i64 f, .bool true, .int .i64 I, .int .i64 o] := (g2.block _ A2.lt (fun e => by have := hne _ e.symm; omega)).trans A2
        have z3 : W.heap.size ≤ w2.heap.size := Nat.le_trans (by simp; omega) g2.size
        clear O2 g2 HO H1 B2 A2 c4 hne
        go_wp2
        go_roundw
        case rel => exact ⟨j + 1, by omega, by go_num, O3, B3, A3, z3⟩
        case measure => simp [intOf]; omega
      · have hjn : j = I := by omega
        subst hjn
        go_wp2
        go_ret
        refine ⟨_, rfl, ?_, B⟩
        rw [← HL.out]
        have e : (R0 ++ List.replicate (Int.toNat (j : Int)) rTry).length = 2 + j := by simp [HR0.out]
        rw [e]
        exact own_base O (by omega)
theorem specSummary (b n f : Int) (t : Bool) (i o : Int) (w : World) :
    Calls Try.prog 44 #[btV b n f t i o] w fun e w' => ∃ v, e = .returned v ∧ w'.ownsRow w.heap.size 29 4 v (smL b n f t i o).length (FL (smL b n f t i o)) ∧ Below w.heap.size w w' := by
  obtain ⟨L, hL⟩ : ∃ L, smL b n f t i o = L := ⟨_, rfl⟩
  rw [hL]
  unfold smL at hL
  obtain ⟨W, hW⟩ : ∃ W, W = w.alloc (.cells #[.int .i64 b, .int .i64 n, .int .i64 f, .bool t, .int .i64 i, .int .i64 o] 35) := ⟨_, rfl⟩
  have B : Below w.heap.size w W := by rw [hW]; exact (Below.refl _ _).alloc (Nat.le_refl _) _
  have A : Arr W w.heap.size 35 [.int .i64 b, .int .i64 n, .int .i64 f, .bool t, .int .i64 i, .int .i64 o] := by rw [hW]; exact Arr.new _ _ _
  go_enter Try.func44, Try.ntmps44
  go_upto_region 1 with fail
  rw [← hW]
  clear hW
  have c0 := A.cell 0
  have c1 := A.cell 1
  have c2 := A.cell 2
  have c3 := A.cell 3
  have c4 := A.cell 4
  have c5 := A.cell 5
  simp at c0 c1 c2 c3 c4 c5
  go_wp2_with fail
  refine (specBootOk b n f t i o _).mono ?_
  rintro e w1 ⟨rfl, hb1⟩
  replace A := A.kept hb1
  replace B := B.trans (hb1.mono B.size)
  clear hb1 c0 c1 c2 c3 c4 c5
  by_cases hok : btOk b n f t i o
  · rw [decide_eq_true hok]
    rw [if_pos hok] at hL
    have HL : Hid _ := hL
    have hb := hok.1
    have hi : 0 ≤ i ∧ i ≤ 3 := by have := hok.2.2.2; revert this; cases t <;> simp <;> omega
    clear hL hok
    have c0 := A.cell 0
    have c1 := A.cell 1
    have c2 := A.cell 2
    have c3 := A.cell 3
    have c4 := A.cell 4
    have c5 := A.cell 5
    simp at c0 c1 c2 c3 c4 c5
    go_wp2_with fail
    refine (specSummaryL b n f t i o _ hb hi).mono ?_
    rintro e w2 ⟨v, rfl, O, hb2⟩
    rw [HL.out] at O
    have B2 := B.trans (hb2.mono B.size)
    have O2 := own_base O B.size
    clear O hb2 B A c0 c1 c2 c3 c4 c5
    go_wp2
    go_ret
    exact ⟨_, rfl, O2, B2⟩
  · rw [decide_eq_false hok]
    rw [if_neg hok] at hL
    have HL : Hid _ := hL
    clear hL hok
    go_wp2
    go_ret
    rw [← HL.out]
    exact ⟨_, rfl, World.ownsRow_nil _ _ _ _, B⟩
end Go.Proofs.Ytjceajgefpinpaa

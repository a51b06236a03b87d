/-
  What is proved here: what the specification's l8bent and DrawMeets answer: a bundle.
-/
import Derived.Test.YtofflhhlacdgfaaDoorPd3
import Derived.Test.YtofflhhlacdgfaaDoorJM6
import Derived.Deep.AppendLies
import Derived.Deep.RegionHeld3
import Derived.Deep.RegionLaw
namespace Go.Proofs.YtofflhhlacdgfaaDoor
open Go.RowKit
set_option maxRecDepth 100000
set_option maxHeartbeats 16000000
set_option linter.unusedVariables false

/-- A slice literal. -/
abbrev kslP (d : Nat) (t : TypeId) (cs : List Value) (m : Nat) : Kd := (some d, (fun l _ => .slice (some ⟨l, 0, none⟩) m m), fun l h w _ => Arr w l t cs ∧ l < h)
theorem kslP_keeps (d : Nat) (t : TypeId) (cs : List Value) (m : Nat) : Kd.keeps (kslP d t cs m) := fun _ _ _ _ _ h _ b => ⟨h.1.kept b, h.2⟩
theorem tslP {P : Program} {ev : Operand → Value} {o : Oper} {d m : Nat} {w : World} {X : Prop} {t : TypeId} {cs : List Value} (h : (execOp ev o).run P w = .ok (.value (.slice (some ⟨w.heap.size, 0, none⟩) m m)) (w.alloc (.cells cs.toArray t))) : Dty X (TOb P ev o (kslP d t cs m) w) := ⟨fun _ => by
  refine ⟨?_⟩
  unfold TObR
  rw [h]
  exact ⟨undef, rfl, (Below.refl _ _).alloc (Nat.le_refl _) _, Arr.new w cs t, by simp⟩⟩
/-- What is read of a drawn bundle, the cursor aside. -/
structure Br (W : World) (lo g cap k : Nat) (l : List L4) (nv : Value) (m : Nat) (ns : List NeedM) : Prop where
  O : W.ownsRow lo 45 4 (.slice (some ⟨g, 0, none⟩) k cap) k (QL l)
  S : SumB W l k
  N : W.ownsRow lo 41 4 nv m (FL (ns.map nrc))
theorem Br.set {W : World} {lo g cap k m : Nat} {l : List L4} {nv : Value} {ns : List NeedM} (h : Br W lo g cap k l nv m ns) {G : Nat} {cs : List Value} (A : Arr W G 26 cs) (j : Nat) (u : Value) : Br (W.setCell ⟨G, j, none⟩ u) lo g cap k l nv m ns :=
  ⟨own_cellP h.O A (by decide), h.S.set A (by decide), own_cellP h.N A (by decide)⟩
theorem Br.set5 {W : World} {lo g cap k m : Nat} {l : List L4} {nv : Value} {ns : List NeedM} (h : Br W lo g cap k l nv m ns) {G : Nat} {cs : List Value} (A : Arr W G 26 cs) (u0 u1 u2 u3 u4 : Value) :
    Br (((((W.setCell ⟨G, 0, none⟩ u0).setCell ⟨G, 1, none⟩ u1).setCell ⟨G, 2, none⟩ u2).setCell ⟨G, 3, none⟩ u3).setCell ⟨G, 4, none⟩ u4) lo g cap k l nv m ns :=
  ((((h.set A 0 u0).set (A.set 0 u0) 1 u1).set ((A.set 0 u0).set 1 u1) 2 u2).set (((A.set 0 u0).set 1 u1).set 2 u2) 3 u3).set ((((A.set 0 u0).set 1 u1).set 2 u2).set 3 u3) 4 u4
theorem Br.ps {W : World} {lo g cap k m : Nat} {l : List L4} {nv : Value} {ns : List NeedM} (h : Br W lo g cap k l nv m ns) (hl : l.length = k) : ∃ ps, Ps W (some ⟨g, 0, none⟩) k cap ps := by
  have hb := World.ownsRow.lt h.O g rfl
  have hcap : k ≤ cap := by
    rcases h.O.2 with ⟨h, h0⟩ | ⟨g', cap', cur, h, _, _, h1, _⟩
    · cases h
    · injection h with h2 h3 h4; omega
  refine ps_all (fun q hq => ?_) hb.2 hcap
  obtain ⟨i, r, b, a', c', xs, e, o⟩ := h.S q hq
  obtain ⟨g0, g1, g2, g3⟩ := QL_get l q (by omega)
  rw [e] at g0 g1 g2 g3
  exact ⟨⟨i, r, b, xs⟩, a', c', ⟨(h.O.cellAt _ (by omega)).trans g0, (h.O.cellAt _ (by omega)).trans g1, (h.O.cellAt _ (by omega)).trans g2, (h.O.cellAt _ (by omega)).trans g3, o.1⟩⟩
theorem bel_set5 {w W : World} {B g : Nat} (h : Below B w W) (hg : B ≤ g) (a b c d e : Value) : Below B w (((((W.setCell ⟨g, 0, none⟩ a).setCell ⟨g, 1, none⟩ b).setCell ⟨g, 2, none⟩ c).setCell ⟨g, 3, none⟩ d).setCell ⟨g, 4, none⟩ e) :=
  ((((h.setCell hg _).setCell hg _).setCell hg _).setCell hg _).setCell hg _
theorem Bw.drew {w W : World} {p : Nat} {a : Option Addr} {n c g cap k : Nat} {l : List L4} {nv : Value} {m : Nat} {ns : List NeedM} (h : Bw w W p a n c g cap k l nv m ns) : Bw w W.drew p a n c g cap k l nv m ns :=
  ⟨⟨h.D.cu, ⟨h.D.gr.os, h.D.gr.tape, h.D.gr.output, h.D.gr.size, h.D.gr.block⟩⟩, h.O, fun q hq => h.S q hq, h.N⟩
theorem curBent8 (p : Nat) (a : Option Addr) (n c : Nat) (xs : List Int) (w : World) (hcur : Cur w p a n c) (hcode : Coded w p a n c xs) :
    Calls Tryd.prog 46 #[.pointer (some ⟨p, 0, none⟩)] w fun e w' => ∃ (d nb f : Int) (P : Value) (g cap k : Nat) (l : List L4) (nv : Value) (m : Nat) (ns : List NeedM), e = .returned (.agg #[.int .i64 d, .int .i64 nb, .int .i64 f, P, nv]) ∧ Bf w w' p a n c g cap k l nv m ns ∧ l.length = k ∧ k ≤ 4 ∧ m ≤ 2 ∧ (P = .slice (some ⟨g, 0, none⟩) k cap ∨ P = .slice none 0 0) := by
  have hp0 := cur_lt hcur
  obtain ⟨V, hV⟩ : ∃ V, V = w.alloc (.cells #[.int .i64 0, .int .i64 0, .int .i64 0, .slice none 0 0, .slice none 0 0] 26) := ⟨_, rfl⟩
  have Q : Arr V w.heap.size 26 [.int .i64 0, .int .i64 0, .int .i64 0, .slice none 0 0, .slice none 0 0] := by rw [hV]; exact Arr.new _ _ _
  have D : D8 w V p a n c := by rw [hV]; exact (⟨hcur, World.grownBy.refl _ _⟩ : D8 w w p a n c).alloc _
  have hpw : p ≠ w.heap.size := by omega
  go_enter Tryd.func46, Tryd.ntmps46
  go_upto_region 1 with fail
  rw [← hV]
  clear hV hcur
  go_wp2_with fail
  refine (curDraw8 p a n c xs _ D.cu (hcode.grown D.gr)).mono ?_
  rintro e w1 ⟨d, nb, f, g, cap, k, l, nv, m, ns, rfl, hk, hl, hm, B1⟩
  obtain ⟨na, nc, rfl, _⟩ := ns_of B1.N
  have hB := B1.base D
  have HK : Hid (0 < k ∧ k ≤ 3) := hk
  have HL : Hid (l.length = k) := hl
  have HM : Hid (m ≤ 1) := hm
  replace Q := Q.pk B1.D.gr hpw
  obtain ⟨X, hX⟩ : ∃ X, X = w1.alloc (.cells #[.int .i64 d, .int .i64 nb, .int .i64 f, .slice (some ⟨g, 0, none⟩) k cap, .slice na m nc] 26) := ⟨_, rfl⟩
  have A : Arr X w1.heap.size 26 [.int .i64 d, .int .i64 nb, .int .i64 f, .slice (some ⟨g, 0, none⟩) k cap, .slice na m nc] := by rw [hX]; exact Arr.new _ _ _
  have zD := hB.D.gr.size
  have lQ0 := Q.lt
  have HB : Hid (Bw w X p a n c g cap k l (.slice na m nc) m ns) := by unfold Hid; rw [hX]; exact hB.alloc _
  replace Q := Q.alloc (.cells #[.int .i64 d, .int .i64 nb, .int .i64 f, .slice (some ⟨g, 0, none⟩) k cap, .slice na m nc] 26)
  rw [← hX] at Q
  clear B1 hB D hk hl hm
  obtain ⟨H, hH⟩ : ∃ H, H = w1.heap.size := ⟨_, rfl⟩
  have hHw : w.heap.size ≤ H := by omega
  have hHw2 : w.heap.size < H := by omega
  have hpH : p ≠ H := by omega
  rw [← hH] at A
  go_upto_region 2 with fail
  rw [← hX]
  rw [← hH]
  clear hX hH zD lQ0
  go_wp2_with fail
  refine (curOnce p a n c xs _ _ HB.out.D.cu (hcode.grown HB.out.D.gr) (by omega)).mono ?_
  rintro e w5 ⟨q, rfl, hc, hg⟩
  replace HB : Hid (Bw w w5 p a n c g cap k l (.slice na m nc) m ns) := HB.out.draw hp0 hc hg
  replace Q := Q.pk hg hpw
  replace A := A.pk hg hpH
  clear hc hg
  cases q
  · have a0 := A.cell 0
    have a1 := A.cell 1
    have a2 := A.cell 2
    have a3 := A.cell 3
    have a4 := A.cell 4
    simp at a0 a1 a2 a3 a4
    have q0 := Q.cell 0
    have q1 := Q.cell 1
    have q2 := Q.cell 2
    have q3 := Q.cell 3
    have q4 := Q.cell 4
    simp at q0 q1 q2 q3 q4
    have fQ := Q.frozen
    have lQ := Q.lt
    have HF : Hid _ := Bf.set5 (HB.out.f) hp0 Q (Nat.le_refl _) (.int .i64 d) (.int .i64 nb) (.int .i64 f) (.slice (some ⟨g, 0, none⟩) k cap) (.slice na m nc)
    have HQ : Hid _ := arr_set5 Q (.int .i64 d) (.int .i64 nb) (.int .i64 f) (.slice (some ⟨g, 0, none⟩) k cap) (.slice na m nc)
    clear Q A HB
    go_wp2
    exact bodyPost_ret (results_cell_row rfl _ _ w.heap.size 26 _ (0, 0) _ rfl HQ.out Tryd.underlying26 rfl (by kernel_rfl)) rfl (by first | exact ⟨_, _, _, _, _, _, _, _, _, _, _, rfl, HF.out, HL.out, by have := HK.out; omega, by have := HM.out; omega, .inl rfl⟩ | exact ⟨_, _, _, _, _, _, _, _, _, rfl, _, ⟨_, HF.out⟩, HL.out, by have := HK.out; omega, by have := HM.out; omega, .inl rfl⟩)
  go_wp2_with fail
  refine (curBelow p a n c xs _ _ HB.out.D.cu (hcode.grown HB.out.D.gr) (by omega)).mono ?_
  rintro e w6 ⟨y, rfl, h0_y, h1_y, _, hc, hg⟩
  replace h1_y := h1_y (by omega)
  replace HB : Hid (Bw w w6 p a n c g cap k l (.slice na m nc) m ns) := HB.out.draw hp0 hc hg
  replace Q := Q.pk hg hpw
  replace A := A.pk hg hpH
  clear hc hg
  have hy : y = 0 ∨ y = 1 ∨ y = 2 ∨ y = 3 ∨ y = 4 ∨ y = 5 ∨ y = 6 ∨ y = 7 := by omega
  rcases hy with rfl | rfl | rfl | rfl | rfl | rfl | rfl | rfl
  · go_wp2_with fail
    have cl := cells_arr w6 [-1, 1000, 1001] 3
    refine (curPick p a n c xs _ 3 [-1, 1000, 1001] _ (cur_keep HB.out.D.cu (grown_alloc _ _ none) (by simp)) ((hcode.grown HB.out.D.gr).grown (grown_alloc _ _ (some p))) rfl (by omega) (by omega) (by have := cur_lt HB.out.D.cu; omega) (fun j hj => cl j hj)).mono ?_
    rintro e w7 ⟨z, rfl, _, hc, hg⟩
    replace HB : Hid (Bw w w7 p a n c g cap k l (.slice na m nc) m ns) := (HB.out.alloc _).draw hp0 hc hg
    replace Q := (Q.alloc _).pk hg hpw
    replace A := (A.alloc _).pk hg hpH
    clear hc hg cl
    have a0 := A.cell 0
    simp at a0
    have fA := A.frozen
    have lA := A.lt
    go_upto_region 19 with fail
    replace HB : Hid _ := HB.out.set hp0 A hHw 0 (.int .i64 z)
    replace Q := Q.other ⟨H, 0, none⟩ (.int .i64 z) (by show w.heap.size ≠ H; omega)
    replace A := A.set 0 (.int .i64 z)
    simp only [List.set_cons_zero] at A
    clear a0 fA lA
    obtain ⟨Z0, hZ0⟩ : ∃ Z, Z = w7.setCell ⟨H, 0, none⟩ (.int .i64 z) := ⟨_, rfl⟩
    rw [← hZ0] at HB Q A ⊢
    clear hZ0
    have a0 := A.cell 0
    have a1 := A.cell 1
    have a2 := A.cell 2
    have a3 := A.cell 3
    have a4 := A.cell 4
    simp at a0 a1 a2 a3 a4
    have q0 := Q.cell 0
    have q1 := Q.cell 1
    have q2 := Q.cell 2
    have q3 := Q.cell 3
    have q4 := Q.cell 4
    simp at q0 q1 q2 q3 q4
    have fQ := Q.frozen
    have lQ := Q.lt
    have HF : Hid _ := Bf.set5 (HB.out.f) hp0 Q (Nat.le_refl _) (.int .i64 z) (.int .i64 nb) (.int .i64 f) (.slice (some ⟨g, 0, none⟩) k cap) (.slice na m nc)
    have HQ : Hid _ := arr_set5 Q (.int .i64 z) (.int .i64 nb) (.int .i64 f) (.slice (some ⟨g, 0, none⟩) k cap) (.slice na m nc)
    clear Q A HB
    go_wp2
    exact bodyPost_ret (results_cell_row rfl _ _ w.heap.size 26 _ (0, 0) _ rfl HQ.out Tryd.underlying26 rfl (by kernel_rfl)) rfl (by first | exact ⟨_, _, _, _, _, _, _, _, _, _, _, rfl, HF.out, HL.out, by have := HK.out; omega, by have := HM.out; omega, .inl rfl⟩ | exact ⟨_, _, _, _, _, _, _, _, _, rfl, _, ⟨_, HF.out⟩, HL.out, by have := HK.out; omega, by have := HM.out; omega, .inl rfl⟩)
  · go_wp2_with fail
    have cl := cells_arr w6 [0, -1, 1001] 3
    refine (curPick p a n c xs _ 3 [0, -1, 1001] _ (cur_keep HB.out.D.cu (grown_alloc _ _ none) (by simp)) ((hcode.grown HB.out.D.gr).grown (grown_alloc _ _ (some p))) rfl (by omega) (by omega) (by have := cur_lt HB.out.D.cu; omega) (fun j hj => cl j hj)).mono ?_
    rintro e w7 ⟨z, rfl, _, hc, hg⟩
    replace HB : Hid (Bw w w7 p a n c g cap k l (.slice na m nc) m ns) := (HB.out.alloc _).draw hp0 hc hg
    replace Q := (Q.alloc _).pk hg hpw
    replace A := (A.alloc _).pk hg hpH
    clear hc hg cl
    have a1 := A.cell 1
    simp at a1
    have fA := A.frozen
    have lA := A.lt
    go_upto_region 19 with fail
    replace HB : Hid _ := HB.out.set hp0 A hHw 1 (.int .i64 z)
    replace Q := Q.other ⟨H, 1, none⟩ (.int .i64 z) (by show w.heap.size ≠ H; omega)
    replace A := A.set 1 (.int .i64 z)
    simp only [List.set_cons_zero, List.set_cons_succ] at A
    clear a1 fA lA
    obtain ⟨Z0, hZ0⟩ : ∃ Z, Z = w7.setCell ⟨H, 1, none⟩ (.int .i64 z) := ⟨_, rfl⟩
    rw [← hZ0] at HB Q A ⊢
    clear hZ0
    have a0 := A.cell 0
    have a1 := A.cell 1
    have a2 := A.cell 2
    have a3 := A.cell 3
    have a4 := A.cell 4
    simp at a0 a1 a2 a3 a4
    have q0 := Q.cell 0
    have q1 := Q.cell 1
    have q2 := Q.cell 2
    have q3 := Q.cell 3
    have q4 := Q.cell 4
    simp at q0 q1 q2 q3 q4
    have fQ := Q.frozen
    have lQ := Q.lt
    have HF : Hid _ := Bf.set5 (HB.out.f) hp0 Q (Nat.le_refl _) (.int .i64 d) (.int .i64 z) (.int .i64 f) (.slice (some ⟨g, 0, none⟩) k cap) (.slice na m nc)
    have HQ : Hid _ := arr_set5 Q (.int .i64 d) (.int .i64 z) (.int .i64 f) (.slice (some ⟨g, 0, none⟩) k cap) (.slice na m nc)
    clear Q A HB
    go_wp2
    exact bodyPost_ret (results_cell_row rfl _ _ w.heap.size 26 _ (0, 0) _ rfl HQ.out Tryd.underlying26 rfl (by kernel_rfl)) rfl (by first | exact ⟨_, _, _, _, _, _, _, _, _, _, _, rfl, HF.out, HL.out, by have := HK.out; omega, by have := HM.out; omega, .inl rfl⟩ | exact ⟨_, _, _, _, _, _, _, _, _, rfl, _, ⟨_, HF.out⟩, HL.out, by have := HK.out; omega, by have := HM.out; omega, .inl rfl⟩)
  · go_wp2_with fail
    have cl := cells_arr w6 [-1, 1000, 1001] 3
    refine (curPick p a n c xs _ 3 [-1, 1000, 1001] _ (cur_keep HB.out.D.cu (grown_alloc _ _ none) (by simp)) ((hcode.grown HB.out.D.gr).grown (grown_alloc _ _ (some p))) rfl (by omega) (by omega) (by have := cur_lt HB.out.D.cu; omega) (fun j hj => cl j hj)).mono ?_
    rintro e w7 ⟨z, rfl, _, hc, hg⟩
    replace HB : Hid (Bw w w7 p a n c g cap k l (.slice na m nc) m ns) := (HB.out.alloc _).draw hp0 hc hg
    replace Q := (Q.alloc _).pk hg hpw
    replace A := (A.alloc _).pk hg hpH
    clear hc hg cl
    have a2 := A.cell 2
    simp at a2
    have fA := A.frozen
    have lA := A.lt
    go_upto_region 19 with fail
    replace HB : Hid _ := HB.out.set hp0 A hHw 2 (.int .i64 z)
    replace Q := Q.other ⟨H, 2, none⟩ (.int .i64 z) (by show w.heap.size ≠ H; omega)
    replace A := A.set 2 (.int .i64 z)
    simp only [List.set_cons_zero, List.set_cons_succ] at A
    clear a2 fA lA
    obtain ⟨Z0, hZ0⟩ : ∃ Z, Z = w7.setCell ⟨H, 2, none⟩ (.int .i64 z) := ⟨_, rfl⟩
    rw [← hZ0] at HB Q A ⊢
    clear hZ0
    have a0 := A.cell 0
    have a1 := A.cell 1
    have a2 := A.cell 2
    have a3 := A.cell 3
    have a4 := A.cell 4
    simp at a0 a1 a2 a3 a4
    have q0 := Q.cell 0
    have q1 := Q.cell 1
    have q2 := Q.cell 2
    have q3 := Q.cell 3
    have q4 := Q.cell 4
    simp at q0 q1 q2 q3 q4
    have fQ := Q.frozen
    have lQ := Q.lt
    have HF : Hid _ := Bf.set5 (HB.out.f) hp0 Q (Nat.le_refl _) (.int .i64 d) (.int .i64 nb) (.int .i64 z) (.slice (some ⟨g, 0, none⟩) k cap) (.slice na m nc)
    have HQ : Hid _ := arr_set5 Q (.int .i64 d) (.int .i64 nb) (.int .i64 z) (.slice (some ⟨g, 0, none⟩) k cap) (.slice na m nc)
    clear Q A HB
    go_wp2
    exact bodyPost_ret (results_cell_row rfl _ _ w.heap.size 26 _ (0, 0) _ rfl HQ.out Tryd.underlying26 rfl (by kernel_rfl)) rfl (by first | exact ⟨_, _, _, _, _, _, _, _, _, _, _, rfl, HF.out, HL.out, by have := HK.out; omega, by have := HM.out; omega, .inl rfl⟩ | exact ⟨_, _, _, _, _, _, _, _, _, rfl, _, ⟨_, HF.out⟩, HL.out, by have := HK.out; omega, by have := HM.out; omega, .inl rfl⟩)
  · obtain ⟨x, t, rfl⟩ : ∃ x t, l = x :: t := by
      cases l with
      | nil => have h1 := HL.out; have h2 := HK.out.1; simp at h1; omega
      | cons x t => exact ⟨x, t, rfl⟩
    obtain ⟨i0, r0, b0, bk, ck, rfl, hck, e0, e1, e2, e3⟩ := HB.out.first HK.out.1
    have hkN : 0 < k := HK.out.1
    have hkI : (0 : Int) < (k : Int) := by have := HK.out.1; omega
    have hFg := HB.out.O.frozenAt
    have lg := (World.ownsRow.lt HB.out.O g rfl).2
    have lA := A.lt
    have fA := A.frozen
    have a3 := A.cell 3
    simp at a3
    clear fA
    go_upto_region 12 with fail
    try simp only [Act.put]
    refine tame [kc 31 (.pointer (some ⟨H, 3, none⟩)), kc 32 (.slice (some ⟨g, 0, none⟩) k cap), kc 33 (.pointer (some ⟨H, 3, none⟩)), kc 34 (.slice (some ⟨g, 0, none⟩) k cap), kc 35 (.pointer (some ⟨g, 0, none⟩)), kc 36 (.agg #[.int .i64 i0, .int .i64 r0, .int .i64 b0, .slice (some ⟨bk, 0, none⟩) 32 ck]), kslP 37 45 [.int .i64 i0, .int .i64 r0, .int .i64 b0, .slice (some ⟨bk, 0, none⟩) 32 ck] 1] 7 (by kernel_rfl) (by kernel_rfl) (by kernel_rfl) (by repeat' first | exact trivial | apply kc_keeps | apply kslP_keeps | constructor) 3 (by kernel_rfl) (fun vv ll hh yW bW => ?_) (fun vv ll hh yW bW F0 ivh aph => ?_)
    · have x3 := (bW.cell (p := ⟨H, 3, none⟩) lA).trans a3
      have y0 := (bW.cell (p := ⟨g, 0, none⟩) lg).trans e0
      have y1 := (bW.cell (p := ⟨g, 1, none⟩) lg).trans e1
      have y2 := (bW.cell (p := ⟨g, 2, none⟩) lg).trans e2
      have y3 := (bW.cell (p := ⟨g, 3, none⟩) lg).trans e3
      refine ⟨tp (by kernel_rfl), tp ?_, tp (by kernel_rfl), tp ?_, tp ?_, tp ?_, tslP ?_, trivial⟩
      all_goals
        simp only [fillK, putT, List.setIfInBounds_toArray, List.set_cons_zero, List.set_cons_succ]
        unfold execOp
        try go_simp
        first | rfl | omega | skip
    obtain ⟨K1, _⟩ : Arr yW (ll 6) 45 [.int .i64 i0, .int .i64 r0, .int .i64 b0, .slice (some ⟨bk, 0, none⟩) 32 ck] ∧ ll 6 < hh 6 := F0.2.2.2.2.2.2.1
    clear F0 ivh aph
    obtain ⟨y, hy⟩ : ∃ z, z = yW := ⟨_, rfl⟩
    rw [← hy] at bW K1 ⊢
    clear hy
    have HBy : Hid (Bw w y p a n c g cap k (⟨.int .i64 i0, .int .i64 r0, .int .i64 b0, .slice (some ⟨bk, 0, none⟩) 32 ck⟩ :: t) (.slice na m nc) m ns) := HB.out.below bW
    have zy := HBy.out.D.gr.size
    obtain ⟨v', w8, hr, ho, hg⟩ := run_app_p4 y w.heap.size (.slice (some ⟨g, 0, none⟩) k cap) k _ HBy.out.O (ll 6) 1 i0 r0 b0 (some ⟨bk, 0, none⟩) 32 ck K1 (by have := HK.out.2; omega) zy
    obtain ⟨g9, cap9, rfl, HB9⟩ := HBy.out.papp hp0 hkN HL.out ho hg
    replace HB : Hid _ := HB9
    replace A := (A.kept bW).gr HBy.out.O (by decide) hg
    replace Q := (Q.kept bW).gr HBy.out.O (by decide) hg
    refine st_val (i := 7) (o := { dst := some 38, op := Op.call { callee := Callee.builtin Builtin.append, args := #[Operand.tmp 32, Operand.tmp 37], argTypes := #[23, 23] }, type := 23, pos := "l08_bundle.go:290", after := #[{ on := 1, ground := Ground.data }, { on := 6, ground := Ground.data }], guard := none }) (v := .slice (some ⟨g9, 0, none⟩) (k + 1) cap9) (w' := w8) (by kernel_rfl) rfl rfl ?_ ?_
    · simp only [fillK, putT, List.setIfInBounds_toArray, List.set_cons_zero, List.set_cons_succ]
      unfold execOp
      simp only [resolve, invoke, builtin, Sem.run_bind, Sem.run_pure, Result.andThen_ok, List.map_toArray, List.map_cons, List.map_nil]
      exact congrArg (fun q => q.andThen fun a w' => Result.ok (Next.value a) w') hr
    clear hr ho hg HBy HB9 K1 bW a3 e0 e1 e2 e3 lg lA hFg zy
    have a3 := A.cell 3
    simp at a3
    have fA := A.frozen
    refine st_set (i := 8) (o := { dst := some 39, op := Op.fieldAddr 26 (Operand.tmp 3) 3, type := 0, pos := "l08_bundle.go:290", after := #[{ on := 0, ground := Ground.phase }, { on := 1, ground := Ground.phase }, { on := 2, ground := Ground.phase }, { on := 3, ground := Ground.phase }, { on := 4, ground := Ground.phase }, { on := 5, ground := Ground.phase }, { on := 6, ground := Ground.phase }, { on := 7, ground := Ground.phase }], guard := none }) (by kernel_rfl) rfl rfl (v := .pointer (some ⟨H, 3, none⟩)) (by kernel_rfl) ?_
    refine st_do (i := 9) (o := { dst := none, op := Op.store 23 (Operand.tmp 39) (Operand.tmp 38), type := 0, pos := "l08_bundle.go:290", after := #[{ on := 8, ground := Ground.data }, { on := 7, ground := Ground.data }, { on := 7, ground := Ground.chain }, { on := 0, ground := Ground.phase }, { on := 1, ground := Ground.phase }, { on := 2, ground := Ground.phase }, { on := 3, ground := Ground.phase }, { on := 4, ground := Ground.phase }, { on := 5, ground := Ground.phase }, { on := 6, ground := Ground.phase }, { on := 7, ground := Ground.phase }], guard := none }) (by kernel_rfl) rfl rfl rfl (w' := w8.setCell ⟨H, 3, none⟩ (.slice (some ⟨g9, 0, none⟩) (k + 1) cap9)) ?_ ?_
    · try simp only [Act.put]
      simp only [fillK, putT, List.setIfInBounds_toArray, List.set_cons_zero, List.set_cons_succ]
      unfold execOp
      go_simp
    refine wpAny_done (by kernel_rfl) ?_ _
    try simp only [Act.put]
    simp only [fillK, putT, List.setIfInBounds_toArray, List.set_cons_zero, List.set_cons_succ]
    replace HB : Hid _ := HB.out.set hp0 A hHw 3 (.slice (some ⟨g9, 0, none⟩) (k + 1) cap9)
    replace Q := Q.other ⟨H, 3, none⟩ (.slice (some ⟨g9, 0, none⟩) (k + 1) cap9) (by show w.heap.size ≠ H; omega)
    replace A := A.set 3 (.slice (some ⟨g9, 0, none⟩) (k + 1) cap9)
    simp only [List.set_cons_zero, List.set_cons_succ] at A
    clear a3 fA
    obtain ⟨Z0, hZ0⟩ : ∃ Z, Z = w8.setCell ⟨H, 3, none⟩ (.slice (some ⟨g9, 0, none⟩) (k + 1) cap9) := ⟨_, rfl⟩
    rw [← hZ0] at HB Q A ⊢
    clear hZ0
    have a0 := A.cell 0
    have a1 := A.cell 1
    have a2 := A.cell 2
    have a3 := A.cell 3
    have a4 := A.cell 4
    simp at a0 a1 a2 a3 a4
    have q0 := Q.cell 0
    have q1 := Q.cell 1
    have q2 := Q.cell 2
    have q3 := Q.cell 3
    have q4 := Q.cell 4
    simp at q0 q1 q2 q3 q4
    have fQ := Q.frozen
    have lQ := Q.lt
    have HF : Hid _ := Bf.set5 (HB.out.f) hp0 Q (Nat.le_refl _) (.int .i64 d) (.int .i64 nb) (.int .i64 f) (.slice (some ⟨g9, 0, none⟩) (k + 1) cap9) (.slice na m nc)
    have HQ : Hid _ := arr_set5 Q (.int .i64 d) (.int .i64 nb) (.int .i64 f) (.slice (some ⟨g9, 0, none⟩) (k + 1) cap9) (.slice na m nc)
    clear Q A HB
    go_wp2
    exact bodyPost_ret (results_cell_row rfl _ _ w.heap.size 26 _ (0, 0) _ rfl HQ.out Tryd.underlying26 rfl (by kernel_rfl)) rfl (by first | exact ⟨_, _, _, _, _, _, _, _, _, _, _, rfl, HF.out, (by have := HL.out; simp at this ⊢; omega), by have := HK.out; omega, by have := HM.out; omega, .inl rfl⟩ | exact ⟨_, _, _, _, _, _, _, _, _, rfl, _, ⟨_, HF.out⟩, (by have := HL.out; simp at this ⊢; omega), by have := HK.out; omega, by have := HM.out; omega, .inl rfl⟩)
  · obtain ⟨x, t, rfl⟩ : ∃ x t, l = x :: t := by
      cases l with
      | nil => have h1 := HL.out; have h2 := HK.out.1; simp at h1; omega
      | cons x t => exact ⟨x, t, rfl⟩
    obtain ⟨i0, r0, b0, bk, ck, rfl, hck, e0, e1, e2, e3⟩ := HB.out.first HK.out.1
    have hkN : 0 < k := HK.out.1
    have hkI : (0 : Int) < (k : Int) := by have := HK.out.1; omega
    have hFg := HB.out.O.frozenAt
    have lg := (World.ownsRow.lt HB.out.O g rfl).2
    have lA := A.lt
    have fA := A.frozen
    have hgH : g ≠ H := by
      rcases own_arr HB.out.O A (by decide) with h | h
      · cases h
      · exact fun e => h (by rw [e]; rfl)
    have hgV : g ≠ w.heap.size := by
      rcases own_arr HB.out.O Q (by decide) with h | h
      · cases h
      · exact fun e => h (by rw [e]; rfl)
    have a3 := A.cell 3
    simp at a3
    clear fA
    have hp6 : w6.heap.size ≠ p := by have := cur_lt HB.out.D.cu; omega
    have HB1 : Hid (Bw w (w6.alloc (.cells #[.int .i64 0, .int .i64 192, .int .i64 193] 3)).drew p a n c g cap k (⟨.int .i64 i0, .int .i64 r0, .int .i64 b0, .slice (some ⟨bk, 0, none⟩) 32 ck⟩ :: t) (.slice na m nc) m ns) := (HB.out.alloc _).drew
    have HA1 : Hid (Arr (w6.alloc (.cells #[.int .i64 0, .int .i64 192, .int .i64 193] 3)).drew H 26 [.int .i64 d, .int .i64 nb, .int .i64 f, .slice (some ⟨g, 0, none⟩) k cap, .slice na m nc]) := A.alloc _
    have HQ1 : Hid (Arr (w6.alloc (.cells #[.int .i64 0, .int .i64 192, .int .i64 193] 3)).drew w.heap.size 26 [.int .i64 0, .int .i64 0, .int .i64 0, .slice none 0 0, .slice none 0 0]) := Q.alloc _
    have hcode6 := hcode.grown HB1.out.D.gr
    clear HB A Q hFg e0 e1 e2 e3
    go_wp2_with fail
    go_region_with ((go_at_call 76; have cl := cells_arr w6 [0, 192, 193] 3; refine (curPick p a n c xs w6.heap.size 3 [0, 192, 193] _ HB1.out.D.cu hcode6 rfl (by omega) (by omega) hp6 (fun j hj => cl j hj)).mono ?_; rintro e w7 ⟨z, rfl, _, hc, hg⟩; have HB2 : Hid (Bw w w7 p a n c g cap k (⟨.int .i64 i0, .int .i64 r0, .int .i64 b0, .slice (some ⟨bk, 0, none⟩) 32 ck⟩ :: t) (.slice na m nc) m ns) := HB1.out.draw hp0 hc hg; have HQ2 : Hid (Arr w7 w.heap.size 26 [.int .i64 0, .int .i64 0, .int .i64 0, .slice none 0 0, .slice none 0 0]) := HQ1.out.pk hg hpw; have HA2 : Hid (Arr w7 H 26 [.int .i64 d, .int .i64 nb, .int .i64 f, .slice (some ⟨g, 0, none⟩) k cap, .slice na m nc]) := HA1.out.pk hg hpH; have a3' := HA2.out.cell 3; simp at a3'; obtain ⟨i0', r0', b0', bk', ck', _, _, _, _, e2', _⟩ := HB2.out.first hkN; have fg' := HB2.out.O.frozenAt; clear hc hg cl))
    all_goals
      clear a3 a3' e2' fg' HB1 HA1 HQ1 hcode6 hp6
      have HB : Hid _ := HB2.out.putS hp0 hkN z
      have A := HA2.out.other ⟨g, 2, none⟩ (.int .i64 z) (by show H ≠ g; exact hgH.symm)
      have Q := HQ2.out.other ⟨g, 2, none⟩ (.int .i64 z) (by show w.heap.size ≠ g; exact hgV.symm)
      clear HB2 HA2 HQ2
      obtain ⟨Z0, hZ0⟩ : ∃ Z, Z = w7.setCell ⟨g, 2, none⟩ (.int .i64 z) := ⟨_, rfl⟩
      rw [← hZ0] at HB Q A ⊢
      clear hZ0
      have a0 := A.cell 0
      have a1 := A.cell 1
      have a2 := A.cell 2
      have a3 := A.cell 3
      have a4 := A.cell 4
      simp at a0 a1 a2 a3 a4
      have q0 := Q.cell 0
      have q1 := Q.cell 1
      have q2 := Q.cell 2
      have q3 := Q.cell 3
      have q4 := Q.cell 4
      simp at q0 q1 q2 q3 q4
      have fQ := Q.frozen
      have lQ := Q.lt
      have HF : Hid _ := Bf.set5 (HB.out) hp0 Q (Nat.le_refl _) (.int .i64 d) (.int .i64 nb) (.int .i64 f) (.slice (some ⟨g, 0, none⟩) k cap) (.slice na m nc)
      have HQ : Hid _ := arr_set5 Q (.int .i64 d) (.int .i64 nb) (.int .i64 f) (.slice (some ⟨g, 0, none⟩) k cap) (.slice na m nc)
      clear Q A HB
      go_wp2
      exact bodyPost_ret (results_cell_row rfl _ _ w.heap.size 26 _ (0, 0) _ rfl HQ.out Tryd.underlying26 rfl (by kernel_rfl)) rfl (by first | exact ⟨_, _, _, _, _, _, _, _, _, _, _, rfl, HF.out, (by have := HL.out; simp at this ⊢; omega), by have := HK.out; omega, by have := HM.out; omega, .inl rfl⟩ | exact ⟨_, _, _, _, _, _, _, _, _, rfl, _, ⟨_, HF.out⟩, (by have := HL.out; simp at this ⊢; omega), by have := HK.out; omega, by have := HM.out; omega, .inl rfl⟩)
  · obtain ⟨x, t, rfl⟩ : ∃ x t, l = x :: t := by
      cases l with
      | nil => have h1 := HL.out; have h2 := HK.out.1; simp at h1; omega
      | cons x t => exact ⟨x, t, rfl⟩
    obtain ⟨i0, r0, b0, bk, ck, rfl, hck, e0, e1, e2, e3⟩ := HB.out.first HK.out.1
    have hkN : 0 < k := HK.out.1
    have hkI : (0 : Int) < (k : Int) := by have := HK.out.1; omega
    have hFg := HB.out.O.frozenAt
    have lg := (World.ownsRow.lt HB.out.O g rfl).2
    have lA := A.lt
    have fA := A.frozen
    have hgH : g ≠ H := by
      rcases own_arr HB.out.O A (by decide) with h | h
      · cases h
      · exact fun e => h (by rw [e]; rfl)
    have hgV : g ≠ w.heap.size := by
      rcases own_arr HB.out.O Q (by decide) with h | h
      · cases h
      · exact fun e => h (by rw [e]; rfl)
    have i1 : (1 : Int) ≤ (ck : Int) := by omega
    have i2 : (32 : Int) ≤ (ck : Int) := by omega
    have a3 := A.cell 3
    simp at a3
    clear fA
    go_upto_region 16 with fail
    try simp only [Act.put]
    refine tame [kc 51 (.pointer (some ⟨H, 3, none⟩)), kc 52 (.slice (some ⟨g, 0, none⟩) k cap), kc 53 (.pointer (some ⟨H, 3, none⟩)), kc 54 (.slice (some ⟨g, 0, none⟩) k cap), kc 55 (.pointer (some ⟨g, 0, none⟩)), kc 56 (.pointer (some ⟨g, 3, none⟩)), kc 57 (.slice (some ⟨bk, 0, none⟩) 32 ck), kc 58 (.slice (some ⟨bk, 1, none⟩) 31 (ck - 1)), kc 59 (.pointer (some ⟨g, 0, none⟩)), kc 60 (.pointer (some ⟨g, 3, none⟩))] 10 (by kernel_rfl) (by kernel_rfl) (by kernel_rfl) (by repeat' first | exact trivial | apply kc_keeps | apply kslP_keeps | constructor) 1 (by kernel_rfl) (fun vv ll hh yW bW => ?_) (fun vv ll hh yW bW F0 ivh aph => ?_)
    · have x3 := (bW.cell (p := ⟨H, 3, none⟩) lA).trans a3
      have y0 := (bW.cell (p := ⟨g, 0, none⟩) lg).trans e0
      have y1 := (bW.cell (p := ⟨g, 1, none⟩) lg).trans e1
      have y2 := (bW.cell (p := ⟨g, 2, none⟩) lg).trans e2
      have y3 := (bW.cell (p := ⟨g, 3, none⟩) lg).trans e3
      refine ⟨tp (by kernel_rfl), tp ?_, tp (by kernel_rfl), tp ?_, tp ?_, tp ?_, tp ?_, tp ?_, tp ?_, tp ?_, trivial⟩
      all_goals
        simp only [fillK, putT, List.setIfInBounds_toArray, List.set_cons_zero, List.set_cons_succ]
        unfold execOp
        try go_simp
        first | rfl | omega | skip
    clear F0 ivh aph
    obtain ⟨y, hy⟩ : ∃ z, z = yW := ⟨_, rfl⟩
    rw [← hy] at bW ⊢
    clear hy
    have y3 := (bW.cell (p := ⟨g, 3, none⟩) lg).trans e3
    have fy := (HB.out.below bW).O.frozenAt
    refine st_do (i := 10) (o := { dst := none, op := Op.store 22 (Operand.tmp 60) (Operand.tmp 58), type := 0, pos := "l08_bundle.go:294", after := #[{ on := 9, ground := Ground.data }, { on := 7, ground := Ground.data }, { on := 0, ground := Ground.phase }, { on := 1, ground := Ground.phase }, { on := 2, ground := Ground.phase }, { on := 3, ground := Ground.phase }, { on := 4, ground := Ground.phase }, { on := 5, ground := Ground.phase }, { on := 6, ground := Ground.phase }, { on := 7, ground := Ground.phase }], guard := none }) (by kernel_rfl) rfl rfl rfl (w' := y.setCell ⟨g, 3, none⟩ (.slice (some ⟨bk, 1, none⟩) 31 (ck - 1))) ?_ ?_
    · try simp only [Act.put]
      simp only [fillK, putT, List.setIfInBounds_toArray, List.set_cons_zero, List.set_cons_succ]
      unfold execOp
      go_simp
    clear y3 fy
    replace HB : Hid (Bf w (y.setCell ⟨g, 3, none⟩ (.slice (some ⟨bk, 1, none⟩) 31 (ck - 1))) p a n c g cap k _ (.slice na m nc) m ns) := (HB.out.below bW).putH hp0 hkN rfl
    replace A := (A.kept bW).other ⟨g, 3, none⟩ (.slice (some ⟨bk, 1, none⟩) 31 (ck - 1)) (by show H ≠ g; exact hgH.symm)
    replace Q := (Q.kept bW).other ⟨g, 3, none⟩ (.slice (some ⟨bk, 1, none⟩) 31 (ck - 1)) (by show w.heap.size ≠ g; exact hgV.symm)
    clear a3 e0 e1 e2 e3 lg lA hFg bW i1 i2 hck
    obtain ⟨Z0, hZ0⟩ : ∃ Z, Z = y.setCell ⟨g, 3, none⟩ (.slice (some ⟨bk, 1, none⟩) 31 (ck - 1)) := ⟨_, rfl⟩
    rw [← hZ0] at HB Q A ⊢
    clear hZ0
    refine wpAny_done (by kernel_rfl) ?_ _
    try simp only [Act.put]
    simp only [fillK, putT, List.setIfInBounds_toArray, List.set_cons_zero, List.set_cons_succ]
    have a0 := A.cell 0
    have a1 := A.cell 1
    have a2 := A.cell 2
    have a3 := A.cell 3
    have a4 := A.cell 4
    simp at a0 a1 a2 a3 a4
    have q0 := Q.cell 0
    have q1 := Q.cell 1
    have q2 := Q.cell 2
    have q3 := Q.cell 3
    have q4 := Q.cell 4
    simp at q0 q1 q2 q3 q4
    have fQ := Q.frozen
    have lQ := Q.lt
    have HF : Hid _ := Bf.set5 (HB.out) hp0 Q (Nat.le_refl _) (.int .i64 d) (.int .i64 nb) (.int .i64 f) (.slice (some ⟨g, 0, none⟩) k cap) (.slice na m nc)
    have HQ : Hid _ := arr_set5 Q (.int .i64 d) (.int .i64 nb) (.int .i64 f) (.slice (some ⟨g, 0, none⟩) k cap) (.slice na m nc)
    clear Q A HB
    go_wp2
    exact bodyPost_ret (results_cell_row rfl _ _ w.heap.size 26 _ (0, 0) _ rfl HQ.out Tryd.underlying26 rfl (by kernel_rfl)) rfl (by first | exact ⟨_, _, _, _, _, _, _, _, _, _, _, rfl, HF.out, (by have := HL.out; simp at this ⊢; omega), by have := HK.out; omega, by have := HM.out; omega, .inl rfl⟩ | exact ⟨_, _, _, _, _, _, _, _, _, rfl, _, ⟨_, HF.out⟩, (by have := HL.out; simp at this ⊢; omega), by have := HK.out; omega, by have := HM.out; omega, .inl rfl⟩)
  · have a4 := A.cell 4
    simp at a4
    have hp6 := cur_lt HB.out.D.cu
    obtain ⟨i9, hi, hz0, hz1, hz2⟩ := info_parts (show (Tryd.prog.info? 41).map (fun i => (i.zero, i.size, i.bytes)) = some (some (rcV 0 0 0 0), 4, 32) by kernel_rfl)
    have HB1 : Hid (Bw w w6.drew p a n c g cap k l (.slice na m nc) m ns) := HB.out.drew
    have HA1 : Hid (Arr w6.drew H 26 [.int .i64 d, .int .i64 nb, .int .i64 f, .slice (some ⟨g, 0, none⟩) k cap, .slice na m nc]) := A
    have HQ1 : Hid (Arr w6.drew w.heap.size 26 [.int .i64 0, .int .i64 0, .int .i64 0, .slice none 0 0, .slice none 0 0]) := Q
    have hk3 : m + 1 ≤ maxLen := by have := HM.out; unfold maxLen; omega
    have hk4 : (m + 1) * 32 ≤ 140737488355328 := by have := HM.out; omega
    clear HB A Q
    go_wp2_with fail
    go_region_law (first
      | (refine step_append_lies _ (by rfl) _ _ _ (by rfl) w.heap.size 41 i9 _ 4 32 Tryd.underlying24 hi hz0 hz1 hz2 rfl (by omega) (.slice na m nc) m (FL (ns.map nrc)) (by rfl) (World.ownsRow.alloc HB4.out.N _) ⟨w9.heap.size, 0, none⟩ 1 1 [.int .i64 z1, .int .i64 2, .int .i64 z3, .int .i64 z2] (by rfl) (by rfl) (World.news_of_block (cs := #[.int .i64 z1, .int .i64 2, .int .i64 z3, .int .i64 z2]) (t := 41) (fr := (0, 0)) (heap_alloc_new w9 _)) (by simp [Value.oneCell']) (by omega) hk3 hk4 (by have := HB4.out.D.gr.size; simp; omega) (w9.heap.size + 1) (by simp) ?_; intro g9 cap9 w10 ho hg hat hlt; have HA5 : Hid (Arr w10 H 26 [.int .i64 d, .int .i64 nb, .int .i64 f, .slice (some ⟨g, 0, none⟩) k cap, .slice na m nc]) := (HA4.out.alloc _).gr (HB4.out.alloc _).N (by decide) hg; have HQ5 : Hid (Arr w10 w.heap.size 26 [.int .i64 0, .int .i64 0, .int .i64 0, .slice none 0 0, .slice none 0 0]) := (HQ4.out.alloc _).gr (HB4.out.alloc _).N (by decide) hg; have a4 := HA5.out.cell 4; have fA := HA5.out.frozen; simp at a4)
      | (go_simp; go_wp2_with (first
        | (go_at_call 77; refine (curBelow p a n c xs _ _ HB1.out.D.cu (hcode.grown HB1.out.D.gr) (by omega)).mono ?_; rintro e w7 ⟨z1, rfl, _, _, _, hc, hg⟩; have HB2 : Hid (Bw w w7 p a n c g cap k l (.slice na m nc) m ns) := HB1.out.draw hp0 hc hg; have HQ2 : Hid (Arr w7 w.heap.size 26 [.int .i64 0, .int .i64 0, .int .i64 0, .slice none 0 0, .slice none 0 0]) := HQ1.out.pk hg hpw; have HA2 : Hid (Arr w7 H 26 [.int .i64 d, .int .i64 nb, .int .i64 f, .slice (some ⟨g, 0, none⟩) k cap, .slice na m nc]) := HA1.out.pk hg hpH; have a4 := HA2.out.cell 4; simp at a4; have lA := HA2.out.lt; clear hc hg HB1 HQ1 HA1)
        | (go_at_call 77; refine (curBelow p a n c xs _ _ HB2.out.D.cu (hcode.grown HB2.out.D.gr) (by omega)).mono ?_; rintro e w8 ⟨z2, rfl, _, _, _, hc, hg⟩; have HB3 : Hid (Bw w w8 p a n c g cap k l (.slice na m nc) m ns) := HB2.out.draw hp0 hc hg; have HQ3 : Hid (Arr w8 w.heap.size 26 [.int .i64 0, .int .i64 0, .int .i64 0, .slice none 0 0, .slice none 0 0]) := HQ2.out.pk hg hpw; have HA3 : Hid (Arr w8 H 26 [.int .i64 d, .int .i64 nb, .int .i64 f, .slice (some ⟨g, 0, none⟩) k cap, .slice na m nc]) := HA2.out.pk hg hpH; have a4 := HA3.out.cell 4; simp at a4; have lA := HA3.out.lt; clear hc hg HB2 HQ2 HA2)
        | (go_at_call 77; refine (curBelow p a n c xs _ _ HB3.out.D.cu (hcode.grown HB3.out.D.gr) (by omega)).mono ?_; rintro e w9 ⟨z3, rfl, _, _, _, hc, hg⟩; have HB4 : Hid (Bw w w9 p a n c g cap k l (.slice na m nc) m ns) := HB3.out.draw hp0 hc hg; have HQ4 : Hid (Arr w9 w.heap.size 26 [.int .i64 0, .int .i64 0, .int .i64 0, .slice none 0 0, .slice none 0 0]) := HQ3.out.pk hg hpw; have HA4 : Hid (Arr w9 H 26 [.int .i64 d, .int .i64 nb, .int .i64 f, .slice (some ⟨g, 0, none⟩) k cap, .slice na m nc]) := HA3.out.pk hg hpH; have a4 := HA4.out.cell 4; simp at a4; have lA := HA4.out.lt; clear hc hg HB3 HQ3 HA3))))
    all_goals
      have HB : Hid _ := ((HB4.out.alloc _).napp hp0 (q := ⟨z1, 2, z3, z2⟩) (by rw [FL_app]; exact ho) hg).set hp0 HA5.out hHw 4 (.slice (some ⟨g9, 0, none⟩) (m + 1) cap9)
      have Q := HQ5.out.other ⟨H, 4, none⟩ (.slice (some ⟨g9, 0, none⟩) (m + 1) cap9) (by show w.heap.size ≠ H; omega)
      have A := HA5.out.set 4 (.slice (some ⟨g9, 0, none⟩) (m + 1) cap9)
      simp only [List.set_cons_zero, List.set_cons_succ] at A
      clear a4 fA ho hg hat hlt HB4 HA4 HQ4 HA5 HQ5 hi hz0 hz1 hz2 hk3 hk4
      obtain ⟨Z0, hZ0⟩ : ∃ Z, Z = w10.setCell ⟨H, 4, none⟩ (.slice (some ⟨g9, 0, none⟩) (m + 1) cap9) := ⟨_, rfl⟩
      rw [← hZ0] at HB Q A ⊢
      clear hZ0
      have a0 := A.cell 0
      have a1 := A.cell 1
      have a2 := A.cell 2
      have a3 := A.cell 3
      have a4 := A.cell 4
      simp at a0 a1 a2 a3 a4
      have q0 := Q.cell 0
      have q1 := Q.cell 1
      have q2 := Q.cell 2
      have q3 := Q.cell 3
      have q4 := Q.cell 4
      simp at q0 q1 q2 q3 q4
      have fQ := Q.frozen
      have lQ := Q.lt
      have HF : Hid _ := Bf.set5 (HB.out.f) hp0 Q (Nat.le_refl _) (.int .i64 d) (.int .i64 nb) (.int .i64 f) (.slice (some ⟨g, 0, none⟩) k cap) (.slice (some ⟨g9, 0, none⟩) (m + 1) cap9)
      have HQ : Hid _ := arr_set5 Q (.int .i64 d) (.int .i64 nb) (.int .i64 f) (.slice (some ⟨g, 0, none⟩) k cap) (.slice (some ⟨g9, 0, none⟩) (m + 1) cap9)
      clear Q A HB
      go_wp2
      exact bodyPost_ret (results_cell_row rfl _ _ w.heap.size 26 _ (0, 0) _ rfl HQ.out Tryd.underlying26 rfl (by kernel_rfl)) rfl (by first | exact ⟨_, _, _, _, _, _, _, _, _, _, _, rfl, HF.out, HL.out, by have := HK.out; omega, by have := HM.out; omega, .inl rfl⟩ | exact ⟨_, _, _, _, _, _, _, _, _, rfl, _, ⟨_, HF.out⟩, HL.out, by have := HK.out; omega, by have := HM.out; omega, .inl rfl⟩)
  · have a3 := A.cell 3
    simp at a3
    have fA := A.frozen
    have lA := A.lt
    go_upto_region 19 with fail
    replace HB : Hid _ := HB.out.set hp0 A hHw 3 (.slice none 0 0)
    replace Q := Q.other ⟨H, 3, none⟩ (.slice none 0 0) (by show w.heap.size ≠ H; omega)
    replace A := A.set 3 (.slice none 0 0)
    simp only [List.set_cons_zero, List.set_cons_succ] at A
    clear a3 fA lA
    obtain ⟨Z0, hZ0⟩ : ∃ Z, Z = w6.setCell ⟨H, 3, none⟩ (.slice none 0 0) := ⟨_, rfl⟩
    rw [← hZ0] at HB Q A ⊢
    clear hZ0
    have a0 := A.cell 0
    have a1 := A.cell 1
    have a2 := A.cell 2
    have a3 := A.cell 3
    have a4 := A.cell 4
    simp at a0 a1 a2 a3 a4
    have q0 := Q.cell 0
    have q1 := Q.cell 1
    have q2 := Q.cell 2
    have q3 := Q.cell 3
    have q4 := Q.cell 4
    simp at q0 q1 q2 q3 q4
    have fQ := Q.frozen
    have lQ := Q.lt
    have HF : Hid _ := Bf.set5 (HB.out.f) hp0 Q (Nat.le_refl _) (.int .i64 d) (.int .i64 nb) (.int .i64 f) (.slice none 0 0) (.slice na m nc)
    have HQ : Hid _ := arr_set5 Q (.int .i64 d) (.int .i64 nb) (.int .i64 f) (.slice none 0 0) (.slice na m nc)
    clear Q A HB
    go_wp2
    exact bodyPost_ret (results_cell_row rfl _ _ w.heap.size 26 _ (0, 0) _ rfl HQ.out Tryd.underlying26 rfl (by kernel_rfl)) rfl (by first | exact ⟨_, _, _, _, _, _, _, _, _, _, _, rfl, HF.out, HL.out, by have := HK.out; omega, by have := HM.out; omega, .inr rfl⟩ | exact ⟨_, _, _, _, _, _, _, _, _, rfl, _, ⟨_, HF.out⟩, HL.out, by have := HK.out; omega, by have := HM.out; omega, .inr rfl⟩)

theorem drawMeets (a : Option Addr) (n c : Nat) (xs : List Int) (w : World) (h : Bs w a n c xs) (hm : n ≤ 9223372036854775807) :
    Calls Tryd.prog 19 #[.slice a n c] w fun e w' => ∃ (d nb f : Int) (pa : Option Addr) (pn pc : Nat) (na : Option Addr) (nn nc : Nat) (ps : List PartM) (ns : List NeedM), e = .returned (.agg #[.int .i64 d, .int .i64 nb, .int .i64 f, .slice pa pn pc, .slice na nn nc]) ∧ Ps w' pa pn pc ps ∧ Ns w' na nn nc ns ∧ pn ≤ 4 ∧ nn ≤ 2 ∧ Below w.heap.size w w' := by
  obtain ⟨V, hV⟩ : ∃ V, V = w.alloc (.cells #[.int .i64 0, .int .i64 0, .int .i64 0, .slice none 0 0, .slice none 0 0] 26) := ⟨_, rfl⟩
  have B0 : Below w.heap.size w V := by rw [hV]; exact (Below.refl _ _).alloc (Nat.le_refl _) _
  have Q : Arr V w.heap.size 26 [.int .i64 0, .int .i64 0, .int .i64 0, .slice none 0 0, .slice none 0 0] := by rw [hV]; exact Arr.new _ _ _
  have zV : w.heap.size + 1 ≤ V.heap.size := by rw [hV]; simp
  have HBs : Hid (Bs V a n c xs) := h.below B0
  go_enter Tryd.func19, Tryd.ntmps19
  go_upto_region 1 with fail
  rw [← hV]
  clear hV h
  go_wp2_with fail
  refine (curNew a n c xs _ HBs.out hm).mono ?_
  rintro e w1 ⟨rfl, hc1, hd1, hs1, hb1⟩
  obtain ⟨p, hp⟩ : ∃ p, p = V.heap.size := ⟨_, rfl⟩
  rw [← hp] at hc1 hd1 ⊢
  have B1 : Below w.heap.size w w1 := B0.trans (hb1.mono B0.size)
  replace Q := Q.kept hb1
  have hpV : p ≠ w.heap.size := by omega
  have hpw : w.heap.size ≤ p := by omega
  clear hs1 hb1 B0 hp zV HBs
  go_wp2_with fail
  refine (curBent8 p a n c xs _ hc1 hd1).mono ?_
  rintro e w2 ⟨d, nb, f, P, g, cap, k, l, nv, m, ns, rfl, hF, hl, hk, hm, hP⟩
  have B2 : Below w.heap.size w w2 := B1.grown hF.D.gr B1.size (fun j hj => by injection hj with hj; omega)
  replace Q := Q.pk hF.D.gr hpV
  obtain ⟨na, nc, rfl, _⟩ := ns_of hF.N
  have HR : Hid (Br w2 w1.heap.size g cap k l (.slice na m nc) m ns) := ⟨hF.O, hF.S, hF.N⟩
  have HL : Hid (l.length = k) := hl
  have HK : Hid (k ≤ 4) := hk
  have HM : Hid (m ≤ 2) := hm
  clear hF hl hk hm hc1 hd1 B1
  obtain ⟨pa, pn, pc, rfl, hPp⟩ : ∃ pa pn pc, P = .slice pa pn pc ∧ ((pa = some ⟨g, 0, none⟩ ∧ pn = k ∧ pc = cap) ∨ (pa = none ∧ pn = 0 ∧ pc = 0)) := by
    rcases hP with rfl | rfl
    · exact ⟨_, _, _, rfl, .inl ⟨rfl, rfl, rfl⟩⟩
    · exact ⟨_, _, _, rfl, .inr ⟨rfl, rfl, rfl⟩⟩
  have HPp : Hid ((pa = some ⟨g, 0, none⟩ ∧ pn = k ∧ pc = cap) ∨ (pa = none ∧ pn = 0 ∧ pc = 0)) := hPp
  clear hP hPp
  have q0 := Q.cell 0
  have q1 := Q.cell 1
  have q2 := Q.cell 2
  have q3 := Q.cell 3
  have q4 := Q.cell 4
  simp at q0 q1 q2 q3 q4
  have fQ := Q.frozen
  have lQ := Q.lt
  have HF : Hid _ := HR.out.set5 Q (.int .i64 d) (.int .i64 nb) (.int .i64 f) (.slice pa pn pc) (.slice na m nc)
  have HQ : Hid _ := arr_set5 Q (.int .i64 d) (.int .i64 nb) (.int .i64 f) (.slice pa pn pc) (.slice na m nc)
  have HBl : Hid _ := bel_set5 B2 (Nat.le_refl w.heap.size) (.int .i64 d) (.int .i64 nb) (.int .i64 f) (.slice pa pn pc) (.slice na m nc)
  clear Q HR B2
  go_wp2
  refine bodyPost_ret (results_cell_row rfl _ _ w.heap.size 26 _ (0, 0) _ rfl HQ.out Tryd.underlying26 rfl (by kernel_rfl)) rfl ?_
  obtain ⟨na', nc', en, hns⟩ := ns_of HF.out.N
  injection en with e1 e2 e3
  subst e1
  subst e3
  have hps : ∃ ps, Ps (((((w2.setCell ⟨w.heap.size, 0, none⟩ (.int .i64 d)).setCell ⟨w.heap.size, 1, none⟩ (.int .i64 nb)).setCell ⟨w.heap.size, 2, none⟩ (.int .i64 f)).setCell ⟨w.heap.size, 3, none⟩ (.slice pa pn pc)).setCell ⟨w.heap.size, 4, none⟩ (.slice na m nc)) pa pn pc ps := by
    rcases HPp.out with ⟨rfl, rfl, rfl⟩ | ⟨rfl, rfl, rfl⟩
    · exact HF.out.ps HL.out
    · exact ⟨[], fun _ => rfl, rfl, Nat.le_refl _, .inl rfl⟩
  obtain ⟨ps, hps⟩ := hps
  have hpn : pn ≤ 4 := by
    have := HK.out
    rcases HPp.out with ⟨_, h2, _⟩ | ⟨_, h2, _⟩ <;> omega
  exact ⟨d, nb, f, pa, pn, pc, na, m, nc, ps, ns, rfl, hps, hns, hpn, HM.out, HBl.out⟩
end Go.Proofs.YtofflhhlacdgfaaDoor

/-
  What is proved here: what the specification's l8draw answers: a bundle, its parts and its needs in rows of their own.
-/
import Derived.Test.YtofflhhlacdgfaaDoorPd1
namespace Go.Proofs.YtofflhhlacdgfaaDoor
open Go.RowKit
set_option maxRecDepth 100000
set_option maxHeartbeats 4000000
set_option linter.unusedVariables false

theorem Arr.pk {W W' : World} {G p t : Nat} {cs : List Value} (h : Arr W G t cs) (hg : W.grownBy W' (some p)) (hne : p ≠ G) : Arr W' G t cs := by
  unfold Arr
  rw [hg.block _ h.lt (by intro e; injection e with e; exact hne e.symm)]
  exact h
theorem Arr.gr {W W' : World} {lo G t t' s n : Nat} {v : Value} {xs cs : List Value} (A : Arr W G t' cs) (k : W.ownsRow lo t s v n xs) (ht : t' ≠ t) (hg : W.grownBy W' v.ownBlock) : Arr W' G t' cs := by
  unfold Arr
  rw [hg.block _ A.lt (fun e => by
    rcases own_arr k A ht with h | h
    · rw [h] at e; cases e
    · exact h e.symm)]
  exact A
theorem Sums.low {lo lo' k : Nat} {W : World} {l : List L4} (h : Sums lo' W l k) (hl : lo ≤ lo') : Sums lo W l k := fun q hq => by
  obtain ⟨i, r, b, a, c, xs, e, o, hx⟩ := h q hq
  exact ⟨i, r, b, a, c, xs, e, own_lowK o hl, hx⟩
/-- What is held of a drawn bundle: the cursor, the row of parts and their sums, the row of needs. -/
structure Bw (w W : World) (p : Nat) (a : Option Addr) (n c g cap k : Nat) (l : List L4) (nv : Value) (m : Nat) (ns : List NeedM) : Prop where
  D : D8 w W p a n c
  O : W.ownsRow w.heap.size 45 4 (.slice (some ⟨g, 0, none⟩) k cap) k (QL l)
  S : Sums w.heap.size W l k
  N : W.ownsRow w.heap.size 41 4 nv m (FL (ns.map nrc))
section
variable {w W W' : World} {p : Nat} {a : Option Addr} {n c g cap k : Nat} {l : List L4} {nv : Value} {m : Nat} {ns : List NeedM}
theorem Bw.draw (h : Bw w W p a n c g cap k l nv m ns) (hp : p < w.heap.size) (hc : Cur W' p a n c) (hg : W.grownBy W' (some p)) : Bw w W' p a n c g cap k l nv m ns :=
  ⟨h.D.draw hc hg, own_pk h.O hp hg, h.S.p hp hg, own_pk h.N hp hg⟩
theorem Bw.below (h : Bw w W p a n c g cap k l nv m ns) (hb : Below W.heap.size W W') : Bw w W' p a n c g cap k l nv m ns :=
  ⟨h.D.below hb, own_below h.O hb, h.S.below hb, own_below h.N hb⟩
theorem Bw.alloc (h : Bw w W p a n c g cap k l nv m ns) (o : Obj) : Bw w (W.alloc o) p a n c g cap k l nv m ns := h.below ((Below.refl _ _).alloc (Nat.le_refl _) _)
theorem Bw.set (h : Bw w W p a n c g cap k l nv m ns) (hp : p < w.heap.size) {G : Nat} {cs : List Value} (A : Arr W G 26 cs) (hG : w.heap.size ≤ G) (j : Nat) (u : Value) : Bw w (W.setCell ⟨G, j, none⟩ u) p a n c g cap k l nv m ns :=
  ⟨h.D.set hG hp j u, own_cellP h.O A (by decide), h.S.cell A (by decide), own_cellP h.N A (by decide)⟩
theorem Bw.set5 (h : Bw w W p a n c g cap k l nv m ns) (hp : p < w.heap.size) {G : Nat} {cs : List Value} (A : Arr W G 26 cs) (hG : w.heap.size ≤ G) (u0 u1 u2 u3 u4 : Value) :
    Bw w (((((W.setCell ⟨G, 0, none⟩ u0).setCell ⟨G, 1, none⟩ u1).setCell ⟨G, 2, none⟩ u2).setCell ⟨G, 3, none⟩ u3).setCell ⟨G, 4, none⟩ u4) p a n c g cap k l nv m ns :=
  ((((h.set hp A hG 0 u0).set hp (A.set 0 u0) hG 1 u1).set hp ((A.set 0 u0).set 1 u1) hG 2 u2).set hp (((A.set 0 u0).set 1 u1).set 2 u2) hG 3 u3).set hp ((((A.set 0 u0).set 1 u1).set 2 u2).set 3 u3) hG 4 u4
theorem arr_set5 {W : World} {G t : Nat} {x0 x1 x2 x3 x4 : Value} (A : Arr W G t [x0, x1, x2, x3, x4]) (u0 u1 u2 u3 u4 : Value) :
    Arr (((((W.setCell ⟨G, 0, none⟩ u0).setCell ⟨G, 1, none⟩ u1).setCell ⟨G, 2, none⟩ u2).setCell ⟨G, 3, none⟩ u3).setCell ⟨G, 4, none⟩ u4) G t [u0, u1, u2, u3, u4] :=
  ((((A.set 0 u0).set 1 u1).set 2 u2).set 3 u3).set 4 u4
theorem Bw.napp (h : Bw w W p a n c g cap k l nv m ns) (hp : p < w.heap.size) {v' : Value} {q : NeedM} (N' : W'.ownsRow w.heap.size 41 4 v' (m + 1) (FL (ns.map nrc ++ [nrc q]))) (hg : W.grownBy W' nv.ownBlock) : Bw w W' p a n c g cap k l v' (m + 1) (ns ++ [q]) :=
  ⟨h.D.app h.N (Nat.le_refl _) hp hg, h.O.kept hg (own_ty h.N h.O (by decide)), h.S.grown h.N (by decide) hg, by rw [List.map_append]; exact N'⟩
end
theorem curDraw8 (p : Nat) (a : Option Addr) (n c : Nat) (xs : List Int) (w : World) (hcur : Cur w p a n c) (hcode : Coded w p a n c xs) :
    Calls Tryd.prog 68 #[.pointer (some ⟨p, 0, none⟩)] w fun e w' => ∃ (d nb f : Int) (g cap k : Nat) (l : List L4) (nv : Value) (m : Nat) (ns : List NeedM), e = .returned (.agg #[.int .i64 d, .int .i64 nb, .int .i64 f, .slice (some ⟨g, 0, none⟩) k cap, nv]) ∧ (0 < k ∧ k ≤ 3) ∧ l.length = k ∧ m ≤ 1 ∧ Bw w w' p a n c g cap k l nv m ns := by
  have hp0 := cur_lt hcur
  obtain ⟨V, hV⟩ : ∃ V, V = w.alloc (.cells #[.int .i64 0, .int .i64 0, .int .i64 0, .slice none 0 0, .slice none 0 0] 26) := ⟨_, rfl⟩
  have Q : Arr V w.heap.size 26 [.int .i64 0, .int .i64 0, .int .i64 0, .slice none 0 0, .slice none 0 0] := by rw [hV]; exact Arr.new _ _ _
  have D : D8 w V p a n c := by rw [hV]; exact (⟨hcur, World.grownBy.refl _ _⟩ : D8 w w p a n c).alloc _
  have hpw : p ≠ w.heap.size := by omega
  go_enter Tryd.func68, Tryd.ntmps68
  go_upto_region 1 with fail
  rw [← hV]
  clear hV hcur
  go_wp2_with fail
  refine (curBelow p a n c xs _ _ D.cu (hcode.grown D.gr) (by omega)).mono ?_
  rintro e w1 ⟨x, rfl, h0_x, h1_x, _, hc, hg⟩
  replace h1_x := h1_x (by omega)
  replace D := D.draw hc hg
  replace Q := Q.pk hg hpw
  clear hc hg
  have hwx : IntKind.i64.wrap (1 + x) = 1 + x := wr64 (by omega) (by omega)
  go_wp2_with fail
  refine (curBelow p a n c xs _ _ D.cu (hcode.grown D.gr) (by omega)).mono ?_
  rintro e w2 ⟨y, rfl, h0_y, h1_y, _, hc, hg⟩
  replace h1_y := h1_y (by omega)
  replace D := D.draw hc hg
  replace Q := Q.pk hg hpw
  clear hc hg
  go_wp2_with fail
  refine (curDrawParts p a n c xs _ D.cu (hcode.grown D.gr)).mono ?_
  rintro e w3 ⟨g, cap, k, l, rfl, hk, hl, O, S, hc, hg⟩
  have HK : Hid (0 < k ∧ k ≤ 3) := hk
  have HL : Hid (l.length = k) := hl
  have hO := own_lowK O D.gr.size
  have hS := S.low D.gr.size
  replace D := D.draw hc hg
  replace Q := Q.pk hg hpw
  obtain ⟨X, hX⟩ : ∃ X, X = w3.alloc (.cells #[.int .i64 7, .int .i64 (1 + x), .int .i64 y, .slice (some ⟨g, 0, none⟩) k cap, .slice none 0 0] 26) := ⟨_, rfl⟩
  have A : Arr X w3.heap.size 26 [.int .i64 7, .int .i64 (1 + x), .int .i64 y, .slice (some ⟨g, 0, none⟩) k cap, .slice none 0 0] := by rw [hX]; exact Arr.new _ _ _
  have hB : Bw w w3 p a n c g cap k l (.slice none 0 0) 0 [] := ⟨D, hO, hS, World.ownsRow_nil _ _ _ _⟩
  have zD := D.gr.size
  have lQ0 := Q.lt
  have HB : Hid (Bw w X p a n c g cap k l (.slice none 0 0) 0 []) := by unfold Hid; rw [hX]; exact hB.alloc _
  replace Q := Q.alloc (.cells #[.int .i64 7, .int .i64 (1 + x), .int .i64 y, .slice (some ⟨g, 0, none⟩) k cap, .slice none 0 0] 26)
  rw [← hX] at Q
  clear O S hc hg hO hS hB D hk hl
  obtain ⟨H, hH⟩ : ∃ H, H = w3.heap.size := ⟨_, rfl⟩
  have hHw : w.heap.size ≤ H := by omega
  have hHw2 : w.heap.size < H := by omega
  have hpH : p ≠ H := by omega
  rw [← hH] at A
  go_upto_region 2 with fail
  rw [← hX]
  rw [← hH]
  clear hX hH zD lQ0
  go_wp2_with fail
  refine (curOnce p a n c xs _ _ HB.out.D.cu (hcode.grown HB.out.D.gr) (by omega)).mono ?_
  rintro e w5 ⟨q, rfl, hc, hg⟩
  replace HB : Hid (Bw w w5 p a n c g cap k l (.slice none 0 0) 0 []) := HB.out.draw hp0 hc hg
  replace Q := Q.pk hg hpw
  replace A := A.pk hg hpH
  clear hc hg
  cases q
  · go_wp2_with fail
    refine (curOnce p a n c xs _ _ HB.out.D.cu (hcode.grown HB.out.D.gr) (by omega)).mono ?_
    rintro e w6 ⟨q, rfl, hc, hg⟩
    replace HB : Hid (Bw w w6 p a n c g cap k l (.slice none 0 0) 0 []) := HB.out.draw hp0 hc hg
    replace Q := Q.pk hg hpw
    replace A := A.pk hg hpH
    clear hc hg
    cases q
    · have a0 := A.cell 0
      have a1 := A.cell 1
      have a2 := A.cell 2
      have a3 := A.cell 3
      have a4 := A.cell 4
      simp at a0 a1 a2 a3 a4
      have q0 := Q.cell 0
      have q1 := Q.cell 1
      have q2 := Q.cell 2
      have q3 := Q.cell 3
      have q4 := Q.cell 4
      simp at q0 q1 q2 q3 q4
      have fQ := Q.frozen
      have lQ := Q.lt
      have HF : Hid _ := HB.out.set5 hp0 Q (Nat.le_refl _) (.int .i64 7) (.int .i64 (1 + x)) (.int .i64 y) (.slice (some ⟨g, 0, none⟩) k cap) (.slice none 0 0)
      have HQ : Hid _ := arr_set5 Q (.int .i64 7) (.int .i64 (1 + x)) (.int .i64 y) (.slice (some ⟨g, 0, none⟩) k cap) (.slice none 0 0)
      clear Q A HB
      go_wp2
      exact bodyPost_ret (results_cell_row rfl _ _ w.heap.size 26 _ (0, 0) _ rfl HQ.out Tryd.underlying26 rfl (by kernel_rfl)) rfl ⟨7, 1 + x, y, g, cap, k, l, _, 0, [], rfl, HK.out, HL.out, by omega, HF.out⟩
    go_wp2_with fail
    refine (curBelow p a n c xs _ _ HB.out.D.cu (hcode.grown HB.out.D.gr) (by omega)).mono ?_
    rintro e w7 ⟨s, rfl, h0_s, h1_s, _, hc, hg⟩
    replace h1_s := h1_s (by omega)
    replace HB : Hid (Bw w w7 p a n c g cap k l (.slice none 0 0) 0 []) := HB.out.draw hp0 hc hg
    replace Q := Q.pk hg hpw
    replace A := A.pk hg hpH
    clear hc hg
    have hws : IntKind.i64.wrap (1 + s) = 1 + s := wr64 (by omega) (by omega)
    go_wp2_with fail
    refine (curBelow p a n c xs _ _ HB.out.D.cu (hcode.grown HB.out.D.gr) (by omega)).mono ?_
    rintro e w8 ⟨t, rfl, h0_t, h1_t, _, hc, hg⟩
    replace h1_t := h1_t (by omega)
    replace HB : Hid (Bw w w8 p a n c g cap k l (.slice none 0 0) 0 []) := HB.out.draw hp0 hc hg
    replace Q := Q.pk hg hpw
    replace A := A.pk hg hpH
    clear hc hg
    go_wp2_with fail
    refine (curBelow p a n c xs _ _ HB.out.D.cu (hcode.grown HB.out.D.gr) (by omega)).mono ?_
    rintro e w9 ⟨r, rfl, h0_r, h1_r, _, hc, hg⟩
    replace h1_r := h1_r (by omega)
    replace HB : Hid (Bw w w9 p a n c g cap k l (.slice none 0 0) 0 []) := HB.out.draw hp0 hc hg
    replace Q := Q.pk hg hpw
    replace A := A.pk hg hpH
    clear hc hg
    have hwr : IntKind.i64.wrap (3 + r) = 3 + r := wr64 (by omega) (by omega)
    obtain ⟨Y, hY⟩ : ∃ Y, Y = w9.alloc (.cells #[.int .i64 0, .int .i64 t, .int .i64 (3 + r), .int .i64 (1 + s)] 41) := ⟨_, rfl⟩
    have E : Arr Y w9.heap.size 41 [.int .i64 0, .int .i64 t, .int .i64 (3 + r), .int .i64 (1 + s)] := by rw [hY]; exact Arr.new _ _ _
    replace HB : Hid (Bw w Y p a n c g cap k l (.slice none 0 0) 0 []) := by unfold Hid; rw [hY]; exact HB.out.alloc _
    replace Q := Q.alloc (.cells #[.int .i64 0, .int .i64 t, .int .i64 (3 + r), .int .i64 (1 + s)] 41)
    replace A := A.alloc (.cells #[.int .i64 0, .int .i64 t, .int .i64 (3 + r), .int .i64 (1 + s)] 41)
    rw [← hY] at Q A
    obtain ⟨G, hG⟩ : ∃ G, G = w9.heap.size := ⟨_, rfl⟩
    rw [← hG] at E
    go_upto_region 6 with fail
    rw [← hY]
    rw [← hG]
    clear hY hG
    have a4 := A.cell 4
    have e0 := E.cell 0
    have e1 := E.cell 1
    have e2 := E.cell 2
    have e3 := E.cell 3
    simp at a4 e0 e1 e2 e3
    have fA := A.frozen
    have lA := A.lt
    have lE := E.lt
    clear E
    have zY := HB.out.D.gr.size
    go_wp2_with (at_builtin; refine wpl_app_nd rfl _ _ rfl rfl w.heap.size (.slice none 0 0) 0 [] rfl Y.heap.size 1 ⟨0, t, 3 + r, 1 + s⟩ rfl (World.ownsRow_nil _ _ _ _) (Arr.new Y [.int .i64 0, .int .i64 t, .int .i64 (3 + r), .int .i64 (1 + s)] 41) (by omega) (by simp; omega) ?_)
    intro v3 w10 O3 g3
    have HB2 : Hid (Bw w w10 p a n c g cap k l v3 (0 + 1) ([] ++ [⟨0, t, 3 + r, 1 + s⟩])) := (HB.out.alloc _).napp hp0 O3 g3
    replace Q := (Q.alloc (.cells #[.int .i64 0, .int .i64 t, .int .i64 (3 + r), .int .i64 (1 + s)] 41)).gr (HB.out.alloc _).N (by decide) g3
    replace A := (A.alloc (.cells #[.int .i64 0, .int .i64 t, .int .i64 (3 + r), .int .i64 (1 + s)] 41)).gr (HB.out.alloc _).N (by decide) g3
    clear O3 g3 HB a4 fA lA e0 e1 e2 e3
    obtain ⟨na, nc, rfl, _⟩ := ns_of HB2.out.N
    have a4 := A.cell 4
    simp at a4
    have fA := A.frozen
    have lA := A.lt
    go_upto_region 7 with fail
    have HB : Hid _ := HB2.out.set hp0 A hHw 4 (.slice na (0 + 1) nc)
    replace Q := Q.other ⟨H, 4, none⟩ (.slice na (0 + 1) nc) (by show w.heap.size ≠ H; omega)
    replace A := A.set 4 (.slice na (0 + 1) nc)
    simp only [List.set_cons_zero, List.set_cons_succ] at A
    clear HB2 a4 fA lA
    obtain ⟨Z, hZ⟩ : ∃ Z, Z = w10.setCell ⟨H, 4, none⟩ (.slice na (0 + 1) nc) := ⟨_, rfl⟩
    rw [← hZ] at HB Q A ⊢
    clear hZ
    have a0 := A.cell 0
    have a1 := A.cell 1
    have a2 := A.cell 2
    have a3 := A.cell 3
    have a4 := A.cell 4
    simp at a0 a1 a2 a3 a4
    have q0 := Q.cell 0
    have q1 := Q.cell 1
    have q2 := Q.cell 2
    have q3 := Q.cell 3
    have q4 := Q.cell 4
    simp at q0 q1 q2 q3 q4
    have fQ := Q.frozen
    have lQ := Q.lt
    have HF : Hid _ := HB.out.set5 hp0 Q (Nat.le_refl _) (.int .i64 7) (.int .i64 (1 + x)) (.int .i64 y) (.slice (some ⟨g, 0, none⟩) k cap) (.slice na (0 + 1) nc)
    have HQ : Hid _ := arr_set5 Q (.int .i64 7) (.int .i64 (1 + x)) (.int .i64 y) (.slice (some ⟨g, 0, none⟩) k cap) (.slice na (0 + 1) nc)
    clear Q A HB
    go_wp2
    exact bodyPost_ret (results_cell_row rfl _ _ w.heap.size 26 _ (0, 0) _ rfl HQ.out Tryd.underlying26 rfl (by kernel_rfl)) rfl ⟨7, 1 + x, y, g, cap, k, l, _, 0 + 1, [] ++ [⟨0, t, 3 + r, 1 + s⟩], rfl, HK.out, HL.out, by omega, HF.out⟩
  have a0 := A.cell 0
  simp at a0
  have fA := A.frozen
  have lA := A.lt
  go_upto_region 4 with fail
  replace HB : Hid _ := HB.out.set hp0 A hHw 0 (.int .i64 8)
  replace Q := Q.other ⟨H, 0, none⟩ (.int .i64 8) (by show w.heap.size ≠ H; omega)
  replace A := A.set 0 (.int .i64 8)
  simp only [List.set_cons_zero] at A
  clear a0 fA lA
  obtain ⟨Z0, hZ0⟩ : ∃ Z, Z = w5.setCell ⟨H, 0, none⟩ (.int .i64 8) := ⟨_, rfl⟩
  rw [← hZ0] at HB Q A ⊢
  clear hZ0
  go_wp2_with fail
  refine (curOnce p a n c xs _ _ HB.out.D.cu (hcode.grown HB.out.D.gr) (by omega)).mono ?_
  rintro e w6 ⟨q, rfl, hc, hg⟩
  replace HB : Hid (Bw w w6 p a n c g cap k l (.slice none 0 0) 0 []) := HB.out.draw hp0 hc hg
  replace Q := Q.pk hg hpw
  replace A := A.pk hg hpH
  clear hc hg
  cases q
  · have a0 := A.cell 0
    have a1 := A.cell 1
    have a2 := A.cell 2
    have a3 := A.cell 3
    have a4 := A.cell 4
    simp at a0 a1 a2 a3 a4
    have q0 := Q.cell 0
    have q1 := Q.cell 1
    have q2 := Q.cell 2
    have q3 := Q.cell 3
    have q4 := Q.cell 4
    simp at q0 q1 q2 q3 q4
    have fQ := Q.frozen
    have lQ := Q.lt
    have HF : Hid _ := HB.out.set5 hp0 Q (Nat.le_refl _) (.int .i64 8) (.int .i64 (1 + x)) (.int .i64 y) (.slice (some ⟨g, 0, none⟩) k cap) (.slice none 0 0)
    have HQ : Hid _ := arr_set5 Q (.int .i64 8) (.int .i64 (1 + x)) (.int .i64 y) (.slice (some ⟨g, 0, none⟩) k cap) (.slice none 0 0)
    clear Q A HB
    go_wp2
    exact bodyPost_ret (results_cell_row rfl _ _ w.heap.size 26 _ (0, 0) _ rfl HQ.out Tryd.underlying26 rfl (by kernel_rfl)) rfl ⟨8, 1 + x, y, g, cap, k, l, _, 0, [], rfl, HK.out, HL.out, by omega, HF.out⟩
  go_wp2_with fail
  refine (curBelow p a n c xs _ _ HB.out.D.cu (hcode.grown HB.out.D.gr) (by omega)).mono ?_
  rintro e w7 ⟨s, rfl, h0_s, h1_s, _, hc, hg⟩
  replace h1_s := h1_s (by omega)
  replace HB : Hid (Bw w w7 p a n c g cap k l (.slice none 0 0) 0 []) := HB.out.draw hp0 hc hg
  replace Q := Q.pk hg hpw
  replace A := A.pk hg hpH
  clear hc hg
  have hws : IntKind.i64.wrap (1 + s) = 1 + s := wr64 (by omega) (by omega)
  go_wp2_with fail
  refine (curBelow p a n c xs _ _ HB.out.D.cu (hcode.grown HB.out.D.gr) (by omega)).mono ?_
  rintro e w8 ⟨t, rfl, h0_t, h1_t, _, hc, hg⟩
  replace h1_t := h1_t (by omega)
  replace HB : Hid (Bw w w8 p a n c g cap k l (.slice none 0 0) 0 []) := HB.out.draw hp0 hc hg
  replace Q := Q.pk hg hpw
  replace A := A.pk hg hpH
  clear hc hg
  go_wp2_with fail
  refine (curBelow p a n c xs _ _ HB.out.D.cu (hcode.grown HB.out.D.gr) (by omega)).mono ?_
  rintro e w9 ⟨r, rfl, h0_r, h1_r, _, hc, hg⟩
  replace h1_r := h1_r (by omega)
  replace HB : Hid (Bw w w9 p a n c g cap k l (.slice none 0 0) 0 []) := HB.out.draw hp0 hc hg
  replace Q := Q.pk hg hpw
  replace A := A.pk hg hpH
  clear hc hg
  have hwr : IntKind.i64.wrap (3 + r) = 3 + r := wr64 (by omega) (by omega)
  obtain ⟨Y, hY⟩ : ∃ Y, Y = w9.alloc (.cells #[.int .i64 0, .int .i64 t, .int .i64 (3 + r), .int .i64 (1 + s)] 41) := ⟨_, rfl⟩
  have E : Arr Y w9.heap.size 41 [.int .i64 0, .int .i64 t, .int .i64 (3 + r), .int .i64 (1 + s)] := by rw [hY]; exact Arr.new _ _ _
  replace HB : Hid (Bw w Y p a n c g cap k l (.slice none 0 0) 0 []) := by unfold Hid; rw [hY]; exact HB.out.alloc _
  replace Q := Q.alloc (.cells #[.int .i64 0, .int .i64 t, .int .i64 (3 + r), .int .i64 (1 + s)] 41)
  replace A := A.alloc (.cells #[.int .i64 0, .int .i64 t, .int .i64 (3 + r), .int .i64 (1 + s)] 41)
  rw [← hY] at Q A
  obtain ⟨G, hG⟩ : ∃ G, G = w9.heap.size := ⟨_, rfl⟩
  rw [← hG] at E
  go_upto_region 6 with fail
  rw [← hY]
  rw [← hG]
  clear hY hG
  have a4 := A.cell 4
  have e0 := E.cell 0
  have e1 := E.cell 1
  have e2 := E.cell 2
  have e3 := E.cell 3
  simp at a4 e0 e1 e2 e3
  have fA := A.frozen
  have lA := A.lt
  have lE := E.lt
  clear E
  have zY := HB.out.D.gr.size
  go_wp2_with (at_builtin; refine wpl_app_nd rfl _ _ rfl rfl w.heap.size (.slice none 0 0) 0 [] rfl Y.heap.size 1 ⟨0, t, 3 + r, 1 + s⟩ rfl (World.ownsRow_nil _ _ _ _) (Arr.new Y [.int .i64 0, .int .i64 t, .int .i64 (3 + r), .int .i64 (1 + s)] 41) (by omega) (by simp; omega) ?_)
  intro v3 w10 O3 g3
  have HB2 : Hid (Bw w w10 p a n c g cap k l v3 (0 + 1) ([] ++ [⟨0, t, 3 + r, 1 + s⟩])) := (HB.out.alloc _).napp hp0 O3 g3
  replace Q := (Q.alloc (.cells #[.int .i64 0, .int .i64 t, .int .i64 (3 + r), .int .i64 (1 + s)] 41)).gr (HB.out.alloc _).N (by decide) g3
  replace A := (A.alloc (.cells #[.int .i64 0, .int .i64 t, .int .i64 (3 + r), .int .i64 (1 + s)] 41)).gr (HB.out.alloc _).N (by decide) g3
  clear O3 g3 HB a4 fA lA e0 e1 e2 e3
  obtain ⟨na, nc, rfl, _⟩ := ns_of HB2.out.N
  have a4 := A.cell 4
  simp at a4
  have fA := A.frozen
  have lA := A.lt
  go_upto_region 7 with fail
  have HB : Hid _ := HB2.out.set hp0 A hHw 4 (.slice na (0 + 1) nc)
  replace Q := Q.other ⟨H, 4, none⟩ (.slice na (0 + 1) nc) (by show w.heap.size ≠ H; omega)
  replace A := A.set 4 (.slice na (0 + 1) nc)
  simp only [List.set_cons_zero, List.set_cons_succ] at A
  clear HB2 a4 fA lA
  obtain ⟨Z, hZ⟩ : ∃ Z, Z = w10.setCell ⟨H, 4, none⟩ (.slice na (0 + 1) nc) := ⟨_, rfl⟩
  rw [← hZ] at HB Q A ⊢
  clear hZ
  have a0 := A.cell 0
  have a1 := A.cell 1
  have a2 := A.cell 2
  have a3 := A.cell 3
  have a4 := A.cell 4
  simp at a0 a1 a2 a3 a4
  have q0 := Q.cell 0
  have q1 := Q.cell 1
  have q2 := Q.cell 2
  have q3 := Q.cell 3
  have q4 := Q.cell 4
  simp at q0 q1 q2 q3 q4
  have fQ := Q.frozen
  have lQ := Q.lt
  have HF : Hid _ := HB.out.set5 hp0 Q (Nat.le_refl _) (.int .i64 8) (.int .i64 (1 + x)) (.int .i64 y) (.slice (some ⟨g, 0, none⟩) k cap) (.slice na (0 + 1) nc)
  have HQ : Hid _ := arr_set5 Q (.int .i64 8) (.int .i64 (1 + x)) (.int .i64 y) (.slice (some ⟨g, 0, none⟩) k cap) (.slice na (0 + 1) nc)
  clear Q A HB
  go_wp2
  exact bodyPost_ret (results_cell_row rfl _ _ w.heap.size 26 _ (0, 0) _ rfl HQ.out Tryd.underlying26 rfl (by kernel_rfl)) rfl ⟨8, 1 + x, y, g, cap, k, l, _, 0 + 1, [] ++ [⟨0, t, 3 + r, 1 + s⟩], rfl, HK.out, HL.out, by omega, HF.out⟩
end Go.Proofs.YtofflhhlacdgfaaDoor

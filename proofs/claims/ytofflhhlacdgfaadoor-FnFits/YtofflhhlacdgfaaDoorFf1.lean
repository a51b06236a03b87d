/-
  What is proved here: what the specification's DrawFits answers: a part and bytes.
-/
import Derived.Test.YtofflhhlacdgfaaDoorFf0
import Derived.Test.YtofflhhlacdgfaaDoorA1Spoil
import Derived.Test.YtofflhhlacdgfaaDoorJP19
namespace Go.Proofs.YtofflhhlacdgfaaDoor
open Go.RowKit
set_option maxRecDepth 100000
set_option maxHeartbeats 8000000
set_option linter.unusedVariables false

theorem drawFits (a : Option Addr) (n c : Nat) (xs : List Int) (w : World) (h : Bs w a n c xs) (hm : n ≤ 9223372036854775807) :
    Calls Tryd.prog 27 #[.slice a n c] w fun e w' => ∃ (k v s : Int) (ha : Option Addr) (hn hc : Nat) (hs : List Int) (da : Option Addr) (dn dc : Nat) (ys : List Int), e = .returned (.tuple #[.agg #[.int .i64 k, .int .i64 v, .int .i64 s, .slice ha hn hc], .slice da dn dc]) ∧ Bs w' ha hn hc hs ∧ Bs w' da dn dc ys ∧ dn ≤ 201 ∧ Below w.heap.size w w' := by
  obtain ⟨V, hV⟩ : ∃ V, V = w.alloc (.cells #[.int .i64 0, .int .i64 0, .int .i64 0, .slice none 0 0] 45) := ⟨_, rfl⟩
  have B0 : Below w.heap.size w V := by rw [hV]; exact (Below.refl _ _).alloc (Nat.le_refl _) _
  have Q : Arr V w.heap.size 45 [.int .i64 0, .int .i64 0, .int .i64 0, .slice none 0 0] := by rw [hV]; exact Arr.new _ _ _
  have zV : w.heap.size + 1 ≤ V.heap.size := by rw [hV]; simp
  have HBs : Hid (Bs V a n c xs) := h.below B0
  go_enter Tryd.func27, Tryd.ntmps27
  go_upto_region 1 with fail
  rw [← hV]
  clear hV h
  go_wp2_with fail
  refine (curNew a n c xs _ HBs.out hm).mono ?_
  rintro e w1 ⟨rfl, hc1, hd1, hs1, hb1⟩
  obtain ⟨p, hp⟩ : ∃ p, p = V.heap.size := ⟨_, rfl⟩
  rw [← hp] at hc1 hd1 ⊢
  have hpz : w.heap.size + 1 ≤ p := by rw [hp]; exact zV
  have hcode := hd1
  have B1 : Below w.heap.size w w1 := B0.trans (hb1.mono B0.size)
  have D : D8 w1 w1 p a n c := ⟨hc1, World.grownBy.refl _ _⟩
  have hp0 := cur_lt hc1
  replace Q := Q.kept hb1
  clear hc1 hd1 hs1 hb1 B0 hp zV HBs
  go_wp2_with fail
  refine (curBelow p a n c xs _ _ D.cu (hcode.grown D.gr) (by omega)).mono ?_
  rintro e w2 ⟨x, rfl, h0_x, h1_x, _, hc, hg⟩
  replace h1_x := h1_x (by omega)
  replace D := D.draw hc hg
  have Q2 : Arr w2 w.heap.size 45 [.int .i64 0, .int .i64 0, .int .i64 0, .slice none 0 0] := by unfold Arr; rw [hg.block _ Q.lt (by intro e; injection e with e; omega)]; exact Q
  have hw : IntKind.i64.wrap (1 + x) = 1 + x := wr64 (by omega) (by omega)
  clear hc hg Q
  go_wp2_with fail
  refine (specL8data (1 + x) _ (by omega)).mono ?_
  rintro e w3 ⟨u, ys, rfl, o, hyb, hyl, hb⟩
  obtain ⟨ua, uc, rfl, _, _⟩ := Bs.own o hyb
  have HO : Hid (w3.ownsRow w1.heap.size 5 1 (.slice ua ys.length uc) ys.length (U8 ys)) := own_lowK o D.gr.size
  have HYB : Hid (bytesF ys) := hyb
  have HYL : Hid (ys.length ≤ 200) := by unfold Hid; omega
  replace D := D.below hb
  replace Q2 := Q2.kept hb
  clear o hb hyb hyl
  have HS : Hid (Calls Tryd.prog 39 #[.int .i64 1, .int .i64 2, .slice ua ys.length uc] w3 (PfAns 1 2 ys w3)) := specPartOf 1 2 ua ys.length uc ys w3 (bs_of_own HO.out HYB.out)
  have hpb : byteP (pfT 1 2 ys).1.h := by
    unfold pfT
    split
    · exact sumOf_byte ys
    · intro y hy; cases hy
  unfold PfAns at HS
  obtain ⟨P, hP⟩ : ∃ P, P = pfT 1 2 ys := ⟨_, rfl⟩
  rw [← hP] at HS hpb
  clear hP
  obtain ⟨⟨pk, pv, ps, hs⟩, ok⟩ := P
  dsimp only at HS hpb
  go_wp2_with fail
  refine Calls.mono HS.out ?_
  rintro e w4 ⟨vh, rfl, oh, hb⟩
  obtain ⟨ha, hc', rfl, _, _⟩ := Bs.own oh hpb
  have HH : Hid (w4.ownsRow w1.heap.size 5 1 (.slice ha hs.length hc') hs.length (U8 hs)) := own_lowK oh D.gr.size
  have HHB : Hid (byteP hs) := hpb
  replace HO : Hid (w4.ownsRow w1.heap.size 5 1 (.slice ua ys.length uc) ys.length (U8 ys)) := own_below HO.out hb
  replace D := D.below hb
  replace Q2 := Q2.kept hb
  clear oh hb hpb HS
  obtain ⟨m, hm2⟩ : ∃ m, m = hs.length := ⟨_, rfl⟩
  rw [← hm2] at HH ⊢
  clear hm2
  have z4 := D.gr.size
  obtain ⟨X, hX⟩ : ∃ X, X = w4.alloc (.cells #[.int .i64 pk, .int .i64 pv, .int .i64 ps, .slice ha m hc'] 45) := ⟨_, rfl⟩
  have L : Arr X w4.heap.size 45 [.int .i64 pk, .int .i64 pv, .int .i64 ps, .slice ha m hc'] := by rw [hX]; exact Arr.new _ _ _
  replace D : D8 w1 X p a n c := by rw [hX]; exact D.alloc _
  replace HH : Hid (X.ownsRow w1.heap.size 5 1 (.slice ha m hc') m (U8 hs)) := by unfold Hid; rw [hX]; exact World.ownsRow.alloc HH.out _
  replace HO : Hid (X.ownsRow w1.heap.size 5 1 (.slice ua ys.length uc) ys.length (U8 ys)) := by unfold Hid; rw [hX]; exact World.ownsRow.alloc HO.out _
  have lQ := Q2.lt
  replace Q2 : Arr X w.heap.size 45 [.int .i64 0, .int .i64 0, .int .i64 0, .slice none 0 0] := by rw [hX]; exact Q2.alloc _
  obtain ⟨H, hH⟩ : ∃ H, H = w4.heap.size := ⟨_, rfl⟩
  have hHw : w1.heap.size ≤ H := by rw [hH]; exact z4
  rw [← hH] at L
  go_upto_region 4 with fail
  rw [← hX]
  rw [← hH]
  clear hX hH lQ
  go_wp2_with fail
  refine (curOnce p a n c xs _ _ D.cu (hcode.grown D.gr) (by omega)).mono ?_
  rintro e w5 ⟨q, rfl, hc, hg⟩
  replace D := D.draw hc hg
  replace HH : Hid (w5.ownsRow w1.heap.size 5 1 (.slice ha m hc') m (U8 hs)) := own_pk HH.out hp0 hg
  replace HO : Hid (w5.ownsRow w1.heap.size 5 1 (.slice ua ys.length uc) ys.length (U8 ys)) := own_pk HO.out hp0 hg
  have Q5 : Arr w5 w.heap.size 45 [.int .i64 0, .int .i64 0, .int .i64 0, .slice none 0 0] := by unfold Arr; rw [hg.block _ Q2.lt (by intro e; injection e with e; omega)]; exact Q2
  have L5 : Arr w5 H 45 [.int .i64 pk, .int .i64 pv, .int .i64 ps, .slice ha m hc'] := by unfold Arr; rw [hg.block _ L.lt (by intro e; injection e with e; omega)]; exact L
  clear hc hg Q2 L
  cases q
  · have B5 : Below w.heap.size w w5 := B1.grown D.gr B1.size (fun k hk => by injection hk with hk; omega)
    have l0 := L5.cell 0
    have l1 := L5.cell 1
    have l2 := L5.cell 2
    have l3 := L5.cell 3
    have q0 := Q5.cell 0
    have q1 := Q5.cell 1
    have q2 := Q5.cell 2
    have q3 := Q5.cell 3
    simp at l0 l1 l2 l3 q0 q1 q2 q3
    have fQ := Q5.frozen
    have lQ := Q5.lt
    have HK : Hid _ := set4p Q5 (.int .i64 pk) (.int .i64 pv) (.int .i64 ps) (.slice ha m hc')
    have HB : Hid _ := bel_set4p B5 (Nat.le_refl w.heap.size) (.int .i64 pk) (.int .i64 pv) (.int .i64 ps) (.slice ha m hc')
    have hz := B1.size
    have HH4 : Hid _ := own_otherP (own_otherP (own_otherP (own_otherP HH.out ⟨w.heap.size, 0, none⟩ (.int .i64 pk) (by show w.heap.size < w1.heap.size; omega)) ⟨w.heap.size, 1, none⟩ (.int .i64 pv) (by show w.heap.size < w1.heap.size; omega)) ⟨w.heap.size, 2, none⟩ (.int .i64 ps) (by show w.heap.size < w1.heap.size; omega)) ⟨w.heap.size, 3, none⟩ (.slice ha m hc') (by show w.heap.size < w1.heap.size; omega)
    have HO4 : Hid _ := own_otherP (own_otherP (own_otherP (own_otherP HO.out ⟨w.heap.size, 0, none⟩ (.int .i64 pk) (by show w.heap.size < w1.heap.size; omega)) ⟨w.heap.size, 1, none⟩ (.int .i64 pv) (by show w.heap.size < w1.heap.size; omega)) ⟨w.heap.size, 2, none⟩ (.int .i64 ps) (by show w.heap.size < w1.heap.size; omega)) ⟨w.heap.size, 3, none⟩ (.slice ha m hc') (by show w.heap.size < w1.heap.size; omega)
    clear Q5 L5 B5 B1 D HH HO
    go_wp2
    exact bodyPost_ret (results_row_tmp (v := .slice ua ys.length uc) (t := 45) (cs := [.int .i64 pk, .int .i64 pv, .int .i64 ps, .slice ha m hc']) rfl rfl rfl HK.out Tryd.underlying45 rfl (by kernel_rfl)) rfl ⟨_, _, _, _, _, _, hs, _, _, _, ys, rfl, bs_of_own HH4.out HHB.out, bs_of_own HO4.out HYB.out, by have := HYL.out; omega, HB.out⟩
  · have l0 : w5.drew.cell? ⟨H, 0, none⟩ = some (.int .i64 pk) := L5.cell 0
    have l1 : w5.drew.cell? ⟨H, 1, none⟩ = some (.int .i64 pv) := L5.cell 1
    have l2 : w5.drew.cell? ⟨H, 2, none⟩ = some (.int .i64 ps) := L5.cell 2
    have l3 : w5.drew.cell? ⟨H, 3, none⟩ = some (.slice ha m hc') := L5.cell 3
    have HD : Hid (D8 w1 w5.drew p a n c) := ⟨D.cu, ⟨D.gr.os, D.gr.tape, D.gr.output, D.gr.size, D.gr.block⟩⟩
    have HBY : Hid (Bs w5.drew ua ys.length uc ys) := bs_of_own HO.out HYB.out
    have HHd : Hid (w5.drew.ownsRow w1.heap.size 5 1 (.slice ha m hc') m (U8 hs)) := HH.out
    have HQ5 : Hid (Arr w5.drew w.heap.size 45 [.int .i64 0, .int .i64 0, .int .i64 0, .slice none 0 0]) := Q5
    have HL5 : Hid (Arr w5.drew H 45 [.int .i64 pk, .int .i64 pv, .int .i64 ps, .slice ha m hc']) := L5
    have hlQ : w.heap.size < w5.heap.size := Q5.lt
    have hlL : H < w5.heap.size := L5.lt
    have z5 : w1.heap.size ≤ w5.heap.size := D.gr.size
    clear D HO HH Q5 L5
    go_wp2_with fail
    go_region_with ((go_at_call 70; refine (curSpoil p a n c xs ua uc ys _ HD.out.cu (hcode.grown HD.out.gr) HBY.out (by have := HYL.out; omega)).mono ?_; rintro e w7 ⟨u, l', rfl, hl', hby', o7, cu7, hg7⟩; obtain ⟨xa, xc, rfl, _, _⟩ := Bs.own o7 hby'; have d0 : w7.cell? ⟨H, 0, none⟩ = some (.int .i64 pk) := (World.cell?_of_block (a := ⟨H, 0, none⟩) (hg7.block H hlL (by intro e; injection e with e; omega))).trans l0; have d1 : w7.cell? ⟨H, 1, none⟩ = some (.int .i64 pv) := (World.cell?_of_block (a := ⟨H, 1, none⟩) (hg7.block H hlL (by intro e; injection e with e; omega))).trans l1; have d2 : w7.cell? ⟨H, 2, none⟩ = some (.int .i64 ps) := (World.cell?_of_block (a := ⟨H, 2, none⟩) (hg7.block H hlL (by intro e; injection e with e; omega))).trans l2; have d3 : w7.cell? ⟨H, 3, none⟩ = some (.slice ha m hc') := (World.cell?_of_block (a := ⟨H, 3, none⟩) (hg7.block H hlL (by intro e; injection e with e; omega))).trans l3; have Q7 : Arr w7 w.heap.size 45 [.int .i64 0, .int .i64 0, .int .i64 0, .slice none 0 0] := (by unfold Arr; rw [hg7.block _ hlQ (by intro e; injection e with e; omega)]; exact HQ5.out); have B7 : Below w.heap.size w w7 := B1.grown (grown_trans HD.out.gr hg7) B1.size (fun k hk => by injection hk with hk; omega); have q0 := Q7.cell 0; have q1 := Q7.cell 1; have q2 := Q7.cell 2; have q3 := Q7.cell 3; simp at q0 q1 q2 q3; have fQ := Q7.frozen; have lQ := Q7.lt; have HK : Hid _ := set4p Q7 (.int .i64 pk) (.int .i64 pv) (.int .i64 ps) (.slice ha m hc'); have HB : Hid _ := bel_set4p B7 (Nat.le_refl w.heap.size) (.int .i64 pk) (.int .i64 pv) (.int .i64 ps) (.slice ha m hc'); have hz := B1.size; have HH4 : Hid _ := own_otherP (own_otherP (own_otherP (own_otherP (own_pk HHd.out hp0 hg7) ⟨w.heap.size, 0, none⟩ (.int .i64 pk) (by show w.heap.size < w1.heap.size; omega)) ⟨w.heap.size, 1, none⟩ (.int .i64 pv) (by show w.heap.size < w1.heap.size; omega)) ⟨w.heap.size, 2, none⟩ (.int .i64 ps) (by show w.heap.size < w1.heap.size; omega)) ⟨w.heap.size, 3, none⟩ (.slice ha m hc') (by show w.heap.size < w1.heap.size; omega); have HO4 : Hid _ := own_otherP (own_otherP (own_otherP (own_otherP (own_lowK o7 (show w1.heap.size ≤ w5.drew.heap.size from z5)) ⟨w.heap.size, 0, none⟩ (.int .i64 pk) (by show w.heap.size < w1.heap.size; omega)) ⟨w.heap.size, 1, none⟩ (.int .i64 pv) (by show w.heap.size < w1.heap.size; omega)) ⟨w.heap.size, 2, none⟩ (.int .i64 ps) (by show w.heap.size < w1.heap.size; omega)) ⟨w.heap.size, 3, none⟩ (.slice ha m hc') (by show w.heap.size < w1.heap.size; omega); have HL7 : Hid (l'.length ≤ 201) := (by have := HYL.out; unfold Hid; omega); have HB7 : Hid (bytesF l') := hby'; clear Q7 B7 o7 cu7 hg7 hl' hby'))
    all_goals go_wp2
    all_goals exact bodyPost_ret (results_row_tmp (v := .slice xa l'.length xc) (t := 45) (cs := [.int .i64 pk, .int .i64 pv, .int .i64 ps, .slice ha m hc']) rfl rfl rfl HK.out Tryd.underlying45 rfl (by kernel_rfl)) rfl ⟨_, _, _, _, _, _, hs, _, _, _, l', rfl, bs_of_own HH4.out HHB.out, bs_of_own HO4.out HB7.out, HL7.out, HB.out⟩
end Go.Proofs.YtofflhhlacdgfaaDoor

/-
  What is proved here: the law FnSigns returns true at every code, and writes into nothing that was there; where the program's variables hold what its text lays into them.
-/
import Derived.Test.YtihoaakbkffejaaGreatDoorSVt
import Derived.Test.YtihoaakbkffejaaGreatDoorSVx
import Derived.Test.YtihoaakbkffejaaGreatDoorSVp
import Derived.Test.YtihoaakbkffejaaGreatDoorSVh
import Derived.Test.YtihoaakbkffejaaGreatDoorSFyq
namespace Go.Proofs.YtihoaakbkffejaaGreatDoor
open Go.RowKit
set_option maxRecDepth 100000

theorem or_224 {x : Int} (h0 : 0 ≤ x) (h1 : x < 256) : ∃ y : Int, bits .or .u8 x 224 = y ∧ 224 ≤ y ∧ y < 256 := by
 obtain ⟨n, rfl⟩ := Int.eq_ofNat_of_zero_le h0
 have hn : n < 256 := by omega
 refine ⟨_, rfl, ?_⟩
 have : ∀ k : Fin 256, 224 ≤ bits .or .u8 ((k.val : Nat) : Int) 224 ∧ bits .or .u8 ((k.val : Nat) : Int) 224 < 256 := by decide +kernel
 exact this ⟨n, hn⟩

set_option maxHeartbeats 8000000 in
theorem walk_fnSigns (w : World) (ab : Option Addr) (nb cb : Nat) (bs : List Int) (hB : Bs w ab nb cb bs) (hre : nb ≤ 140737488351232) (be : Addr) (hG : VarsV w be) :
  Calls Tryz.prog 3 #[.slice ab nb cb] w fun e w' => e = .returned (.bool true) ∧ Below w.heap.size w w' := by
 haveI := nzP
 have HG : Hid (∀ Z, Below w.heap.size w Z → VarsV Z be) := by unfold Hid; intro Z hZ; exact hG.kept hZ
 clear hG
 go_enter Tryz.func3, Tryz.ntmps3
 go_wp2_with fail
 refine (drawSign ab nb cb bs _ hB (by omega)).mono ?_
 rintro e w1 ⟨a1, n1, c1, sd, a2, n2, c2, ms, rfl, i1, h1, i2, h2, B⟩
 clear hB
 go_wp2_with fail
 refine (implSign a1 n1 c1 sd a2 n2 c2 ms _ i1 i2 (HG.out _ B).g).mono ?_
 rintro e w2 ⟨v, rfl, o3, b2⟩
 obtain ⟨a3, c3, rfl, _, i3⟩ := Bs.own o3 (snL_byte sd ms)
 have B2 := B.trans (b2.mono B.size)
 replace i1 := i1.below b2
 replace i2 := i2.below b2
 clear o3 b2 B
 go_wp2_with fail
 refine (implPubOf a1 n1 c1 sd _ i1 (HG.out _ B2).g).mono ?_
 rintro e w3 ⟨v, rfl, o4, b3⟩
 obtain ⟨a4, c4, rfl, _, i4⟩ := Bs.own o4 (pbL_byte sd)
 have B3 := B2.trans (b3.mono B2.size)
 replace i1 := i1.below b3
 replace i2 := i2.below b3
 replace i3 := i3.below b3
 clear o4 b3 B2
 have l1 : sd.length = n1 := i1.2.1
 have l2 : ms.length = n2 := i2.2.1
 by_cases hy : n1 = 32 ∧ n2 ≤ 2000
 ·obtain ⟨y1, y2⟩ := hy
  subst y1
  have e1 : snOk sd ms = true := by unfold snOk; simp [l1, l2, y2]
  have e2 : pbOk sd = true := by unfold pbOk; simp [l1]
  have e3 : (snL sd ms).length = 64 := by unfold snL; rw [if_pos e1, sgB_len]
  have V1 : vfy (pbL sd) ms (snL sd ms) = true := vfy_sign l1 (by omega)
  have HV1 : Hid _ := V1
  obtain ⟨sg, hsg⟩ : ∃ s, s = snL sd ms := ⟨_, rfl⟩
  obtain ⟨pb, hpb⟩ : ∃ s, s = pbL sd := ⟨_, rfl⟩
  have HSB : Hid (∀ x ∈ sg, 0 ≤ x ∧ x < 256) := by unfold Hid; rw [hsg]; exact snL_byte _ _
  rw [e1, e2]
  rw [e3] at i3
  rw [← hsg] at HV1 e3 i3
  rw [← hpb] at HV1 i4
  rw [← hsg, ← hpb, e3]
  have hsl : n2 ≤ 2000 := y2
  clear V1 hsg hpb e1 e2
  go_wp2_with fail
  refine (implVerify' a4 _ c4 pb a2 n2 c2 ms a3 64 c3 sg _ i4 i2 i3 be (HG.out _ B3)).mono ?_
  rintro e w4 ⟨rfl, b4⟩
  rw [HV1.out]
  have B4 := B3.trans (b4.mono B3.size)
  replace i1 := i1.below b4
  replace i2 := i2.below b4
  replace i3 := i3.below b4
  replace i4 := i4.below b4
  clear b4 B3 HV1
  go_upto_region 8 with fail
  obtain ⟨ws, hws⟩ : ∃ z, z = w4.heap.size := ⟨_, rfl⟩
  have ow : (w4.alloc (.cells #[] 5)).ownsRow w4.heap.size 5 1 (.slice (some ⟨w4.heap.size, 0, none⟩) 0 0) 0 (U8 []) := World.ownsRow_lit (base := w4.heap.size) (e := 5) (size := 1) w4 #[] 0 (Nat.le_refl _) (by unfold maxLen; omega) rfl
  have bA : Below w4.heap.size w4 (w4.alloc (.cells #[] 5)) := (Below.refl _ _).alloc (Nat.le_refl _) _
  go_wp2_with (at_builtin; refine wpl_append_bs rfl _ _ rfl w4.heap.size _ 0 [] rfl a3 64 c3 sg rfl ow (i3.below bA) (by omega) (by simp) ?_)
  intro v5 w5 o5 gr5 _
  have b5 : Below w4.heap.size w4 w5 := below_app0 bA bA.size ow gr5
  replace o5 : w5.ownsRow w4.heap.size 5 1 v5 64 (U8 sg) := by simpa [U8] using o5
  obtain ⟨g, cap, rfl, hgW⟩ : ∃ g cap, v5 = .slice (some ⟨g, 0, none⟩) 64 cap ∧ w4.heap.size ≤ g := by
   rcases o5.2 with ⟨_, hv⟩ | ⟨g, cap, cu, hv, hg, _⟩
   ·omega
   ·exact ⟨g, cap, hv, hg⟩
  obtain ⟨x, ex⟩ : ∃ x, x = sg.getD 63 0 := ⟨_, rfl⟩
  have hx := gD_u8 HSB.out 63
  rw [← ex] at hx
  obtain ⟨y, hy, hy1, hy2⟩ := or_224 hx.1 hx.2
  have c63 : w5.cell? ⟨g, 63, none⟩ = some (.int .u8 x) := by rw [own_cell o5 63 (by omega), ex]
  have fz := o5.frozenAt 63
  have o6 := own_at o5 63 (.int .u8 y)
  have B6 := b5.setCell (p := ⟨g, 63, none⟩) hgW (.int .u8 y)
  have HGR : Hid (vfy pb ms (sg.set 63 y) = false) := by
   unfold Hid
   refine vfy_great _ _ _ (fun z hz => ?_) ?_
   ·rcases List.mem_or_eq_of_mem_set hz with h | rfl
    ·exact HSB.out z h
    ·omega
   ·rw [getD_set _ _ _ _ (by omega), if_pos rfl]; exact hy1
  have HYB : Hid (∀ z ∈ sg.set 63 y, 0 ≤ z ∧ z < 256) := by
   unfold Hid; intro z hz
   rcases List.mem_or_eq_of_mem_set hz with h | rfl
   ·exact HSB.out z h
   ·omega
  clear ow bA gr5 i3 ex hws ws hy1
  go_upto_region 10 with fail
  obtain ⟨w6, h6⟩ : ∃ Z, Z = w5.setCell ⟨g, 63, none⟩ (.int .u8 y) := ⟨_, rfl⟩
  rw [← h6] at o6 B6 ⊢
  clear h6 fz c63 o5 b5
  have i6 : Bs w6 (some ⟨g, 0, none⟩) 64 cap (sg.set 63 y) := bs_of_own (by simpa only [U8, List.map_set] using o6) HYB.out
  replace i1 := i1.below B6
  replace i2 := i2.below B6
  replace i4 := i4.below B6
  replace B4 := B4.trans (B6.mono B4.size)
  clear o6 B6 HYB
  go_wp2_with fail
  refine (implClamp a1 32 c1 sd _ i1).mono ?_
  rintro e w7 ⟨v7, rfl, o7, b7⟩
  have p1 : cpOk sd = true := by unfold cpOk; exact decide_eq_true l1
  have p2 : cpL sd = clB sd := by unfold cpL; rw [if_pos p1]
  rw [p1]
  rw [p2, clB_len, l1] at o7
  obtain ⟨g7, cap7, rfl⟩ : ∃ g cap, v7 = .slice (some ⟨g, 0, none⟩) 32 cap := by
   rcases o7.2 with ⟨_, hv⟩ | ⟨g, cap, cu, hv, hg, _⟩
   ·omega
   ·exact ⟨g, cap, hv⟩
  obtain ⟨q1, q2, q3⟩ := cp_ends l1 i1.2.2.2.1
  obtain ⟨u0, e0⟩ : ∃ x, x = (clB sd).getD 0 0 := ⟨_, rfl⟩
  obtain ⟨u31, e31⟩ : ∃ x, x = (clB sd).getD 31 0 := ⟨_, rfl⟩
  rw [← e0] at q1
  rw [← e31] at q2 q3
  have HCB : Hid _ := clB_byte i1.2.2.2.1
  replace i2 := i2.below b7
  replace i4 := i4.below b7
  replace i6 := i6.below b7
  replace B4 := B4.trans (b7.mono B4.size)
  clear i1 b7 p1 p2
  go_wp2_with fail
  refine (implVerify' a4 _ c4 pb a2 n2 c2 ms (some ⟨g, 0, none⟩) 64 cap (sg.set 63 y) _ i4 i2 i6 be (HG.out _ B4)).mono ?_
  rintro e w8 ⟨rfl, b8⟩
  rw [HGR.out]
  have o8 := own_below o7 b8
  have k0 : w8.cell? ⟨g7, 0, none⟩ = some (.int .u8 u0) := by rw [own_cell o8 0 (by rw [clB_len]; omega), e0]
  have k31 : w8.cell? ⟨g7, 31, none⟩ = some (.int .u8 u31) := by rw [own_cell o8 31 (by rw [clB_len]; omega), e31]
  have B8 := B4.trans (b8.mono B4.size)
  have u0b : 0 ≤ u0 ∧ u0 < 256 := by rw [e0]; exact gD_u8 HCB.out 0
  clear o7 o8 i2 i4 i6 b8 B4 HGR HCB e0 e31
  go_wp2
  go_ret
  exact ⟨by simp, B8⟩
 ·have e1 : snOk sd ms = false := by unfold snOk; simp [l1, l2]; omega
  have e3 : snL sd ms = [] := by unfold snL; rw [e1]; rfl
  rw [e1, e3]
  have e2 : pbOk sd = decide ((n1 : Int) = 32) := by unfold pbOk; rw [l1]; exact decide_eq_decide.2 (by omega)
  rw [e2]
  clear e1 e2 e3 i1 i2 i3 i4
  by_cases hn : (n1 : Int) = 32
  all_goals
   first | (have hm : 2000 < (n2 : Int) := by omega) | skip
   simp only [hn, decide_true, decide_false]
   go_wp2_with fail
   refine (oPBase _ (HG.out _ B3).g).mono ?_
   rintro e w4 ⟨a5, c5, b5, d5, rfl, po, b4⟩
   have B4 := B3.trans (b4.mono B3.size)
   go_wp2_with fail
   refine (oPBytes a5 c5 b5 d5 baseK _ po.pi on_base (HG.out _ B4).g).mono ?_
   rintro e w5 ⟨v, rfl, o5, b5'⟩
   obtain ⟨a6, c6, rfl, _, _⟩ := Bs.own o5 (enc_byte _)
   have B5 := B4.trans (b5'.mono B4.size)
   clear o5 B4 po
   go_wp2
   go_ret
   exact ⟨by simp [hn], B5⟩
end Go.Proofs.YtihoaakbkffejaaGreatDoor

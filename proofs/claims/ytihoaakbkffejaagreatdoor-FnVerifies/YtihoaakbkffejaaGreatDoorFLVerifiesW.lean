/-
  What is proved here: the law FnVerifies returns true at every code, and writes into nothing that was there; where the program's variables hold what its text lays into them.
-/
import Derived.Test.YtihoaakbkffejaaGreatDoorFVt
import Derived.Test.YtihoaakbkffejaaGreatDoorFSap
import Derived.Test.YtihoaakbkffejaaGreatDoorFGpw
import Derived.Test.YtihoaakbkffejaaGreatDoorFVr
import Derived.Test.YtihoaakbkffejaaGreatDoorFJio
namespace Go.Proofs.YtihoaakbkffejaaGreatDoor
open Go.RowKit
set_option maxRecDepth 100000
abbrev qLVerifiesW0 : Oper := { dst := some 65, op := Op.move (Operand.tmp 68), type := 39, pos := "laws.go:363", after := #[{ on := 2, ground := Ground.data }], guard := none }
abbrev qLVerifiesW1 : Oper := { dst := some 69, op := Op.extract (Operand.tmp 65) 0, type := 33, pos := "laws.go:363", after := #[{ on := 3, ground := Ground.data }], guard := none }
abbrev qLVerifiesW2 : Oper := { dst := some 70, op := Op.extract (Operand.tmp 65) 1, type := 4, pos := "laws.go:363", after := #[{ on := 3, ground := Ground.data }, { on := 7, ground := Ground.gcOnly Departure.lateStores }], guard := none }
abbrev qLVerifiesW3 : Oper := { dst := none, op := Op.store 33 (Operand.tmp 14) (Operand.tmp 69), type := 0, pos := "laws.go:363", after := #[{ on := 6, ground := Ground.data }, { on := 4, ground := Ground.data }, { on := 2, ground := Ground.chain }, { on := 0, ground := Ground.phase }, { on := 1, ground := Ground.phase }, { on := 2, ground := Ground.phase }, { on := 3, ground := Ground.phase }, { on := 4, ground := Ground.phase }, { on := 5, ground := Ground.textOnly Departure.lateStores }, { on := 6, ground := Ground.phase }], guard := none }

set_option maxHeartbeats 8000000 in
theorem walk_fnVerifies (w : World) (ab : Option Addr) (nb cb : Nat) (bs : List Int) (hB : Bs w ab nb cb bs) (hre : nb ≤ 140737488351232) (be : Addr) (hG : VarsV w be) :
  Calls Tryz.prog 4 #[.slice ab nb cb] w fun e w' => e = .returned (.bool true) ∧ Below w.heap.size w w' := by
 haveI := nzP
 have HG : Hid (∀ Z, Below w.heap.size w Z → VarsV Z be) := by unfold Hid; intro Z hZ; exact hG.kept hZ
 clear hG
 have huS : Tryz.prog.underlying 41 = some _ := Tryz.underlying41
 go_enter Tryz.func4, Tryz.ntmps4
 go_wp2_with fail
 refine (drawVerify ab nb cb bs _ hB (by omega)).mono ?_
 rintro e w1 ⟨v1, v2, v3, rfl, a1, n1, c1, pb, a2, n2, c2, ms, a3, n3, c3, sg, rfl, rfl, rfl, i1, m1, i2, m2, i3, m3, fr⟩
 clear hB
 obtain ⟨R, hR⟩ : ∃ R, R = vfy pb ms sg := ⟨_, rfl⟩
 have HV : Hid (Calls Tryz.prog 12 #[.slice a1 n1 c1, .slice a2 n2 c2, .slice a3 n3 c3] w1 fun e w' => e = .returned (.bool R) ∧ Below w1.heap.size w1 w') := by unfold Hid; rw [hR]; exact implVerify' a1 n1 c1 pb a2 n2 c2 ms a3 n3 c3 sg w1 i1 i2 i3 be (HG.out _ fr)
 cases R with
 | false =>
  clear hR i1 i2 i3
  go_wp2_with fail
  refine HV.out.mono ?_
  rintro e w2 ⟨rfl, b2⟩
  replace fr := fr.trans (b2.mono fr.size)
  clear b2
  go_wp2_with fail
  refine (oPBase _ (HG.out _ fr).g).mono ?_
  rintro e w4 ⟨a5, c5, b5, d5, rfl, po, b4⟩
  replace fr := fr.trans (b4.mono fr.size)
  go_wp2_with fail
  refine (oPBytes a5 c5 b5 d5 baseK _ po.pi on_base (HG.out _ fr).g).mono ?_
  rintro e w5 ⟨v, rfl, o5, b5'⟩
  obtain ⟨a6, c6, rfl, _, _⟩ := Bs.own o5 (enc_byte _)
  replace fr := fr.trans (b5'.mono fr.size)
  clear o5 po b4 b5'
  go_wp2
  go_ret
  exact ⟨rfl, fr⟩
 | true =>
  obtain ⟨k1, k2, k3, k4, k5, k6⟩ := vfy_says hR.symm i1.2.2.2.1
  have l3 : sg.length = n3 := i3.2.1
  have l2 : ms.length = n2 := i2.2.1
  have l1 : pb.length = 32 := (rdOk6_parts k3).1
  have l1n : pb.length = n1 := i1.2.1
  obtain rfl : n3 = 64 := by omega
  obtain rfl : n1 = 32 := by omega
  obtain ⟨gs, os, rfl⟩ : ∃ g o, a3 = some ⟨g, o, none⟩ := by
   rcases i3.2.2.2.2 with h | ⟨b, o, h, _⟩
   ·omega
   ·exact ⟨b, o, h⟩
  have hcs := i3.2.2.1
  have hc32 : (32 : Int) ≤ (c3 : Int) := by omega
  have tc : ((c3 : Int) - 32).toNat = c3 - 32 := by omega
  have hd := i3.dropW (m := 32) (by omega)
  have ht := i3.takeW (m := 32) (by omega)
  obtain ⟨S, eS⟩ : ∃ S, S = rdL (sg.drop 32) := ⟨_, rfl⟩
  have ld : (sg.drop 32).length = 32 := by simp [l3]
  have hq : val (rdL (sg.drop 32)) < qO := by unfold rdOkO at k5; rw [ld] at k5; simpa using k5
  have oS : scOk S = true := by rw [eS]; exact (scOk_iff _).2 ⟨rdL_len _, rdL_lm (drop_byte i3.2.2.2.1 32), hq⟩
  obtain ⟨K, eK⟩ : ∃ K, K = mS (sg.take 32 ++ pb ++ ms) := ⟨_, rfl⟩
  have oK : scOk K = true := by rw [eK]; exact mS_ok _
  obtain ⟨A, eA⟩ : ∃ x, x = vfA pb := ⟨_, rfl⟩
  have oA : On dK A := by rw [eA]; exact vfA_on i1.2.2.2.1 k3
  obtain ⟨Rr, eR⟩ : ∃ x, x = vfA (sg.take 32) := ⟨_, rfl⟩
  have oR : On dK Rr := by rw [eR]; exact vfA_on (take_byte i3.2.2.2.1 32) k4
  obtain ⟨T, eT⟩ : ∃ x, x = pMul dK ivK (val S).toNat baseK := ⟨_, rfl⟩
  have oT : On dK T := by rw [eT]; exact crvK.on_mul on_base _
  obtain ⟨Y, eY⟩ : ∃ x, x = pMul dK ivK (val K).toNat A := ⟨_, rfl⟩
  have oY : On dK Y := by rw [eY]; exact crvK.on_mul oA _
  have hEq : pAdd dK ivK Rr Y = T := by rw [eR, eY, eA, eT, eK, eS]; exact k6
  have HA : Hid (∀ Z, Below w.heap.size w Z → Below w1.heap.size w1 Z → Calls Tryz.prog 15 #[.slice a1 32 c1] Z fun e w' => ∃ a1 c1 b1 d1, e = .returned (.tuple #[.agg #[.slice a1 16 c1, .slice b1 16 d1], .bool true]) ∧ PI w' a1 c1 b1 d1 A ∧ Below Z.heap.size Z w') := by unfold Hid; intro Z hZ hC; rw [eA]; exact oRead _ _ _ pb Z (i1.below hC) (HG.out _ hZ).g (HG.out _ hZ).Q k3
  have HRr : Hid (∀ Z, Below w.heap.size w Z → Below w1.heap.size w1 Z → Calls Tryz.prog 15 #[.slice (some ⟨gs, os, none⟩) 32 c3] Z fun e w' => ∃ a1 c1 b1 d1, e = .returned (.tuple #[.agg #[.slice a1 16 c1, .slice b1 16 d1], .bool true]) ∧ PI w' a1 c1 b1 d1 Rr ∧ Below Z.heap.size Z w') := by unfold Hid; intro Z hZ hC; rw [eR]; exact oRead _ _ _ _ Z (ht.below hC) (HG.out _ hZ).g (HG.out _ hZ).Q k4
  have HSr : Hid (∀ Z, Below w.heap.size w Z → Below w1.heap.size w1 Z → Calls Tryz.prog 16 #[.slice (some ⟨gs, os + 32, none⟩) 32 (c3 - 32)] Z fun e w' => ∃ a1 c1, e = .returned (.tuple #[.agg #[.slice a1 16 c1], .bool true]) ∧ Is w' a1 16 c1 S ∧ Below Z.heap.size Z w') := by unfold Hid; intro Z hZ hC; rw [eS]; exact oScRead _ _ _ _ Z (hd.below hC) (HG.out _ hZ).g k5
  have HSh : Hid (∀ a c Z, Below w.heap.size w Z → Bs Z a (32 + 32 + n2) c (sg.take 32 ++ pb ++ ms) → Calls Tryz.prog 18 #[.slice a (32 + 32 + n2) c] Z fun e w' => ∃ a' c', e = .returned (.slice a' 64 c') ∧ Bs w' a' 64 c' (sumOfW (sg.take 32 ++ pb ++ ms)) ∧ Below Z.heap.size Z w') := by
   unfold Hid; intro a c Z hZ h; have h0 := implSha512 a (32 + 32 + n2) c _ Z h (HG.out _ hZ).g.T (HG.out _ hZ).g.F
   have e1 : s512 (sg.take 32 ++ pb ++ ms) = sumOfW (sg.take 32 ++ pb ++ ms) := by unfold s512; rw [if_pos (by have := h.2.1; omega)]
   rw [e1, sumOfW_len] at h0; refine h0.mono ?_
   rintro e w' ⟨v, rfl, ho, hb⟩; obtain ⟨a', c', rfl, _, hB⟩ := Bs.own ho (sumOfW_byte _); exact ⟨a', c', rfl, hB, hb⟩
  have HW : Hid (∀ a c Z, Below w.heap.size w Z → Bs Z a 64 c (sumOfW (sg.take 32 ++ pb ++ ms)) → Calls Tryz.prog 17 #[.slice a 64 c] Z fun e w' => ∃ a1 c1, e = .returned (.tuple #[.agg #[.slice a1 16 c1], .bool true]) ∧ Is w' a1 16 c1 K ∧ Below Z.heap.size Z w') := by
   unfold Hid; intro a c Z hZ h; refine (implScWide a 64 c _ Z h (HG.out _ hZ).g.O).mono ?_
   rintro e z ⟨v, rfl, ⟨ac, cc, rfl, oo⟩, hb⟩
   have e1 : wdOk (sumOfW (sg.take 32 ++ pb ++ ms)) = true := by unfold wdOk; exact decide_eq_true (sumOfW_len _)
   have e2 : wdF (sumOfW (sg.take 32 ++ pb ++ ms)) = K := by unfold wdF; rw [if_pos e1, eK]; rfl
   have e3 : K.length = 16 := sc_16 oK
   rw [e2, e3] at oo ⊢; rw [e1]; exact ⟨ac, cc, rfl, is_of_own oo (sc_int oK), hb⟩
  have H0 : Hid (∀  Z, Below w.heap.size w Z → Calls Tryz.prog 11 #[] Z fun e w' => ∃ a1 c1 b1 d1, e = .returned (.agg #[.slice a1 16 c1, .slice b1 16 d1]) ∧ PO w' Z.heap.size a1 c1 b1 d1 baseK ∧ Below Z.heap.size Z w') := by unfold Hid; intro Z hZ; exact oPBase Z (HG.out _ hZ).g
  have H2 : Hid (∀ a c b d ak ck Z, PI Z a c b d baseK → Is Z ak 16 ck S → Below w.heap.size w Z → Calls Tryz.prog 19 #[.agg #[.slice a 16 c, .slice b 16 d], .agg #[.slice ak 16 ck]] Z fun e w' => ∃ a1 c1 b1 d1, e = .returned (.tuple #[.agg #[.slice a1 16 c1, .slice b1 16 d1], .bool true]) ∧ PO w' Z.heap.size a1 c1 b1 d1 T ∧ Below Z.heap.size Z w') := by unfold Hid; intro a c b d ak ck Z h k hZ; rw [eT]; exact oPMul a c b d baseK ak ck S Z h k on_base oS (HG.out _ hZ).g
  have H3 : Hid (∀ a c b d ak ck Z, PI Z a c b d A → Is Z ak 16 ck K → Below w.heap.size w Z → Calls Tryz.prog 19 #[.agg #[.slice a 16 c, .slice b 16 d], .agg #[.slice ak 16 ck]] Z fun e w' => ∃ a1 c1 b1 d1, e = .returned (.tuple #[.agg #[.slice a1 16 c1, .slice b1 16 d1], .bool true]) ∧ PO w' Z.heap.size a1 c1 b1 d1 Y ∧ Below Z.heap.size Z w') := by unfold Hid; intro a c b d ak ck Z h k hZ; rw [eY]; exact oPMul a c b d A ak ck K Z h k oA oK (HG.out _ hZ).g
  have H5 : Hid (∀ a c b d a' c' b' d' Z, PI Z a c b d Rr → PI Z a' c' b' d' Y → Below w.heap.size w Z → Calls Tryz.prog 20 #[.agg #[.slice a 16 c, .slice b 16 d], .agg #[.slice a' 16 c', .slice b' 16 d']] Z fun e w' => ∃ a1 c1 b1 d1, e = .returned (.tuple #[.agg #[.slice a1 16 c1, .slice b1 16 d1], .bool true]) ∧ PO w' Z.heap.size a1 c1 b1 d1 T ∧ Below Z.heap.size Z w') := by unfold Hid; intro a c b d a' c' b' d' Z h k hZ; rw [← hEq]; exact oPAdd a c b d Rr a' c' b' d' Y Z h k oR oY (HG.out _ hZ).g
  have HTB : Hid (∀ x ∈ sg.take 32, 0 ≤ x ∧ x < 256) := take_byte i3.2.2.2.1 32
  have HPB : Hid (∀ x ∈ pb, 0 ≤ x ∧ x < 256) := i1.2.2.2.1
  have HMB : Hid (∀ x ∈ ms, 0 ≤ x ∧ x < 256) := i2.2.2.2.1
  clear hR eS eK eA eR eT eY hEq oA oR oT oY oS oK k1 k2 k3 k4 k5 k6 hq ld i3 hd
  have fc : Below w1.heap.size w1 w1 := Below.refl _ _
  go_wp2_with fail
  refine (HV.out).mono ?_
  rintro e y1 ⟨rfl, hb1⟩
  replace fr := fr.trans (hb1.mono fr.size)
  replace fc := fc.trans (hb1.mono fc.size)
  clear hb1
  go_wp2_with fail
  refine (HA.out _ fr fc).mono ?_
  rintro e y2 ⟨a5, c5, b5, d5, rfl, p5, hb2⟩
  replace fr := fr.trans (hb2.mono fr.size)
  replace fc := fc.trans (hb2.mono fc.size)
  clear hb2
  go_upto_region 5 with fail
  obtain ⟨Z5, hV⟩ : ∃ Z, Z = y2.alloc (.cells #[.slice a5 16 c5, .slice b5 16 d5] 33) := ⟨_, rfl⟩
  have bV : Below y2.heap.size y2 Z5 := by rw [hV]; exact (Below.refl _ _).alloc (Nat.le_refl _) _
  have A5 : Arr Z5 y2.heap.size 33 [.slice a5 16 c5, .slice b5 16 d5] := by rw [hV]; exact Arr.new _ _ _
  rw [← hV]
  replace fr := fr.trans (bV.mono fr.size)
  replace fc := fc.trans (bV.mono fc.size)
  replace p5 := p5.below bV
  clear hV bV
  obtain ⟨X5, hX⟩ : ∃ X, X = y2.heap.size := ⟨_, rfl⟩
  rw [← hX] at A5 ⊢
  clear hX
  go_wp2_with fail
  refine (HRr.out _ fr fc).mono ?_
  rintro e y3 ⟨a6, c6, b6, d6, rfl, p6, hb3⟩
  replace fr := fr.trans (hb3.mono fr.size)
  replace fc := fc.trans (hb3.mono fc.size)
  replace p5 := p5.below hb3
  replace A5 := A5.kept hb3
  clear hb3
  go_upto_region 6 with fail
  obtain ⟨Z6, hV⟩ : ∃ Z, Z = y3.alloc (.cells #[.slice a6 16 c6, .slice b6 16 d6] 33) := ⟨_, rfl⟩
  have bV : Below y3.heap.size y3 Z6 := by rw [hV]; exact (Below.refl _ _).alloc (Nat.le_refl _) _
  have A6 : Arr Z6 y3.heap.size 33 [.slice a6 16 c6, .slice b6 16 d6] := by rw [hV]; exact Arr.new _ _ _
  rw [← hV]
  replace fr := fr.trans (bV.mono fr.size)
  replace fc := fc.trans (bV.mono fc.size)
  replace p5 := p5.below bV
  replace A5 := A5.kept bV
  replace p6 := p6.below bV
  clear hV bV
  obtain ⟨X6, hX⟩ : ∃ X, X = y3.heap.size := ⟨_, rfl⟩
  rw [← hX] at A6 ⊢
  clear hX
  go_wp2_with fail
  refine (HSr.out _ fr fc).mono ?_
  rintro e y4 ⟨a7, c7, rfl, p7, hb4⟩
  replace fr := fr.trans (hb4.mono fr.size)
  replace fc := fc.trans (hb4.mono fc.size)
  replace p5 := p5.below hb4
  replace A5 := A5.kept hb4
  replace p6 := p6.below hb4
  replace A6 := A6.kept hb4
  clear hb4
  go_upto_region 7 with fail
  obtain ⟨Z7, hV⟩ : ∃ Z, Z = y4.alloc (.cells #[.slice a7 16 c7] 41) := ⟨_, rfl⟩
  have bV : Below y4.heap.size y4 Z7 := by rw [hV]; exact (Below.refl _ _).alloc (Nat.le_refl _) _
  have A7 : Arr Z7 y4.heap.size 41 [.slice a7 16 c7] := by rw [hV]; exact Arr.new _ _ _
  rw [← hV]
  replace fr := fr.trans (bV.mono fr.size)
  replace fc := fc.trans (bV.mono fc.size)
  replace p5 := p5.below bV
  replace A5 := A5.kept bV
  replace p6 := p6.below bV
  replace A6 := A6.kept bV
  replace p7 := p7.below bV
  clear hV bV
  obtain ⟨X7, hX⟩ : ∃ X, X = y4.heap.size := ⟨_, rfl⟩
  rw [← hX] at A7 ⊢
  clear hX
  have ow : (Z7.alloc (.cells #[] 5)).ownsRow Z7.heap.size 5 1 (.slice (some ⟨Z7.heap.size, 0, none⟩) 0 0) 0 (U8 []) := World.ownsRow_lit (base := Z7.heap.size) (e := 5) (size := 1) Z7 #[] 0 (Nat.le_refl _) (by unfold maxLen; omega) rfl
  have bA : Below Z7.heap.size Z7 (Z7.alloc (.cells #[] 5)) := (Below.refl _ _).alloc (Nat.le_refl _) _
  go_wp2_with (at_builtin; refine wpl_append_bs rfl _ _ rfl Z7.heap.size _ 0 [] rfl (some ⟨gs, os, none⟩) 32 c3 (sg.take 32) rfl ow ((ht.below fc).below bA) (by omega) (by simp) ?_)
  intro v21 x21 o21 gr21 _
  have bb21 : Below Z7.heap.size Z7 x21 := below_app0 bA bA.size ow gr21
  replace o21 : x21.ownsRow Z7.heap.size 5 1 v21 32 (U8 (sg.take 32)) := by simpa [U8] using o21
  clear ow bA gr21
  go_wp2_with (at_builtin; refine wpl_append_bs rfl _ _ rfl Z7.heap.size _ 32 (sg.take 32) rfl a1 32 c1 pb rfl o21 ((i1.below fc).below bb21) (by omega) bb21.size ?_)
  intro v22 x22 o22 gr22 _
  have bb22 : Below Z7.heap.size Z7 x22 := below_app0 bb21 bb21.size o21 gr22
  replace o22 : x22.ownsRow Z7.heap.size 5 1 v22 (32 + 32) (U8 (sg.take 32 ++ pb)) := by simpa [U8] using o22
  clear o21 bb21 gr22
  go_wp2_with (at_builtin; refine wpl_append_bs rfl _ _ rfl Z7.heap.size _ (32 + 32) (sg.take 32 ++ pb) rfl a2 n2 c2 ms rfl o22 ((i2.below fc).below bb22) (by omega) bb22.size ?_)
  intro v23 x23 o23 gr23 _
  have bb23 : Below Z7.heap.size Z7 x23 := below_app0 bb22 bb22.size o22 gr23
  replace o23 : x23.ownsRow Z7.heap.size 5 1 v23 (32 + 32 + n2) (U8 (sg.take 32 ++ pb ++ ms)) := by simpa [U8] using o23
  clear o22 bb22 gr23
  obtain ⟨a23, c23, rfl, _, i23⟩ := Bs.own o23 (app_byte (app_byte HTB.out HPB.out) HMB.out)
  replace fr := fr.trans (bb23.mono fr.size)
  replace fc := fc.trans (bb23.mono fc.size)
  replace p5 := p5.below bb23
  replace A5 := A5.kept bb23
  replace p6 := p6.below bb23
  replace A6 := A6.kept bb23
  replace p7 := p7.below bb23
  replace A7 := A7.kept bb23
  clear o23 bb23
  go_wp2_with fail
  refine (HSh.out _ _ _ fr i23).mono ?_
  rintro e y5 ⟨a24, c24, rfl, i24, hb5⟩
  replace fr := fr.trans (hb5.mono fr.size)
  replace fc := fc.trans (hb5.mono fc.size)
  replace p5 := p5.below hb5
  replace A5 := A5.kept hb5
  replace p6 := p6.below hb5
  replace A6 := A6.kept hb5
  replace p7 := p7.below hb5
  replace A7 := A7.kept hb5
  clear hb5
  clear i23
  go_wp2_with fail
  refine (HW.out _ _ _ fr i24).mono ?_
  rintro e y6 ⟨a8, c8, rfl, p8, hb6⟩
  replace fr := fr.trans (hb6.mono fr.size)
  replace fc := fc.trans (hb6.mono fc.size)
  replace p5 := p5.below hb6
  replace A5 := A5.kept hb6
  replace p6 := p6.below hb6
  replace A6 := A6.kept hb6
  replace p7 := p7.below hb6
  replace A7 := A7.kept hb6
  clear hb6
  clear i24
  go_upto_region 8 with fail
  obtain ⟨Z8, hV⟩ : ∃ Z, Z = y6.alloc (.cells #[.slice a8 16 c8] 41) := ⟨_, rfl⟩
  have bV : Below y6.heap.size y6 Z8 := by rw [hV]; exact (Below.refl _ _).alloc (Nat.le_refl _) _
  have A8 : Arr Z8 y6.heap.size 41 [.slice a8 16 c8] := by rw [hV]; exact Arr.new _ _ _
  rw [← hV]
  replace fr := fr.trans (bV.mono fr.size)
  replace fc := fc.trans (bV.mono fc.size)
  replace p5 := p5.below bV
  replace A5 := A5.kept bV
  replace p6 := p6.below bV
  replace A6 := A6.kept bV
  replace p7 := p7.below bV
  replace A7 := A7.kept bV
  replace p8 := p8.below bV
  clear hV bV
  obtain ⟨X8, hX⟩ : ∃ X, X = y6.heap.size := ⟨_, rfl⟩
  rw [← hX] at A8 ⊢
  clear hX
  have hX7 := A7.lt
  have fz : Below Z8.heap.size Z8 Z8 := Below.refl _ _
  try simp only [Act.put]
  go_cut [14] from 65 (fun s14 wc => ∃ (Xp : Nat) (a9 : Option Addr) (c9 : Nat) (b9 : Option Addr) (d9 : Nat), s14 = .pointer (some ⟨Xp, 0, none⟩) ∧ Arr wc Xp 33 [.slice a9 16 c9, .slice b9 16 d9] ∧ PI wc a9 c9 b9 d9 T ∧ Below Z8.heap.size Z8 wc)
  case first =>
   clear p5 p6 p8 A5 A6 A8 fc HA HRr HSr HSh HW HV H3 H5
   try simp only [Act.put]
   have bD : Below Z8.heap.size Z8 Z8.drew := (Below.refl _ _).drew
   replace fr := fr.trans (bD.mono fr.size)
   replace fz := fz.trans (bD.mono fz.size)
   replace A7 := A7.kept bD
   replace p7 := p7.below bD
   clear bD
   refine wp_region_held_drew (S := fun W => W.rangeAt X7 0 [.slice a7 16 c7]) (by kernel_rfl) (arr_range A7) (fun hHeld => ?_)
   obtain ⟨D7, hD⟩ : ∃ V, V = Z8.drew := ⟨_, rfl⟩
   rw [← hD] at hHeld fr fz A7 p7 ⊢
   clear hD
   refine wpAnyH_take (i := 1) (oi := { dst := some 67, op := Op.load 41 (Operand.tmp 10), type := 41, pos := "laws.go:363", after := #[], guard := none }) (v := _) rfl (by kernel_rfl) (by kernel_rfl) (by kernel_rfl) (fun _ _ _ h => h) (yieldsIf_load_mid (by rfl) _ _ rfl _ _ rfl ([.slice a7 16 c7]) _ (fun _ h => h) huS rfl infoSc) (by assumption) ?_
   simp only [aP]
   refine wpAnyH_ready (rs := [0, 6]) (by kernel_rfl) (by simp) (AllReadyH.cons (o := { dst := some 66, op := Op.call { callee := Callee.value (Operand.func 11), args := #[], argTypes := #[] }, type := 33, pos := "laws.go:363", after := #[], guard := none }) rfl (fun K hK => ?_) (AllReadyH.cons (o := { dst := some 14, op := Op.alloc 33, type := 0, pos := "laws.go:363", after := #[], guard := none }) rfl (fun K hK => ?_) AllReadyH.nil))
   ·skip
    go_simp
    refine (H0.out _ fr).mono ?_
    rintro e y8 ⟨a1x, c1x, b1x, d1x, rfl, p1, hb8⟩
    replace fr := fr.trans (hb8.mono fr.size)
    replace fz := fz.trans (hb8.mono fz.size)
    replace A7 := A7.kept hb8
    replace p7 := p7.below hb8
    clear hb8
    go_wp2_with fail
    refine hK.out _ _ (arr_range A7) (fun hHeld => ?_)
    clear hK K
    refine wpAnyH_ready (rs := [2, 6]) (by kernel_rfl) (by simp) (AllReadyH.cons (o := { dst := some 68, op := Op.call { callee := Callee.value (Operand.func 19), args := #[Operand.tmp 66, Operand.tmp 67], argTypes := #[33, 41] }, type := 39, pos := "laws.go:363", after := #[{ on := 0, ground := Ground.data }, { on := 1, ground := Ground.data }, { on := 0, ground := Ground.chain }], guard := none }) rfl (fun K hK => ?_) (AllReadyH.cons (o := { dst := some 14, op := Op.alloc 33, type := 0, pos := "laws.go:363", after := #[], guard := none }) rfl (fun K hK => ?_) AllReadyH.nil))
    ·skip
     go_simp
     have hl2 : X7 < y8.heap.size := A7.lt
     have hlz := fz.size
     refine (H2.out _ _ _ _ _ _ _ p1.pi p7 fr).mono ?_
     rintro e y9 ⟨a9, c9, b9, d9, rfl, p2, hb9⟩
     replace fr := fr.trans (hb9.mono fr.size)
     replace fz := fz.trans (hb9.mono fz.size)
     replace A7 := A7.kept hb9
     replace p7 := p7.below hb9
     replace p1 := p1.below hb9
     clear hb9
     clear p1
     have i91 := In.of p2.x
     have i92 := In.of p2.y
     go_wp2_with fail
     refine hK.out _ _ (arr_range A7) (fun hHeld => ?_)
     clear hK K
     refine wpAnyH_take (i := 3) (oi := qLVerifiesW0) (v := .tuple #[.agg #[.slice a9 16 c9, .slice b9 16 d9], .bool true]) rfl (by kernel_rfl) (by kernel_rfl) (by kernel_rfl) (fun _ _ _ h => h) (.inl ⟨by rfl, fun _ _ => by rfl⟩) (by assumption) ?_
     simp only [aP]
     refine wpAnyH_take (i := 4) (oi := qLVerifiesW1) (v := .agg #[.slice a9 16 c9, .slice b9 16 d9]) rfl (by kernel_rfl) (by kernel_rfl) (by kernel_rfl) (fun _ _ _ h => h) (.inl ⟨by rfl, fun _ _ => by rfl⟩) (by assumption) ?_
     simp only [aP]
     refine wpAnyH_take (i := 5) (oi := qLVerifiesW2) (v := .bool true) rfl (by kernel_rfl) (by kernel_rfl) (by kernel_rfl) (fun _ _ _ h => h) (.inl ⟨by rfl, fun _ _ => by rfl⟩) (by assumption) ?_
     simp only [aP]
     refine wpAnyH_ready (rs := [6]) (by kernel_rfl) (by simp) (AllReadyH.cons (o := { dst := some 14, op := Op.alloc 33, type := 0, pos := "laws.go:363", after := #[], guard := none }) rfl (fun K hK => ?_) AllReadyH.nil)
     go_simp
     obtain ⟨V10, hVe⟩ : ∃ V, V = y9.alloc (.cells #[.slice none 0 0, .slice none 0 0] 33) := ⟨_, rfl⟩
     have bV : Below y9.heap.size y9 V10 := by rw [hVe]; exact (Below.refl _ _).alloc (Nat.le_refl _) _
     have Ap : Arr V10 y9.heap.size 33 ([.slice none 0 0, .slice none 0 0]) := by rw [hVe]; exact Arr.new _ ([.slice none 0 0, .slice none 0 0]) _
     have hXp : X7 < y9.heap.size ∧ True := ⟨A7.lt, trivial⟩
     obtain ⟨Xp, hXe⟩ : ∃ X, X = y9.heap.size := ⟨_, rfl⟩
     have sXp : y9.heap.size ≤ Xp := Nat.le_of_eq hXe.symm
     have uXpfr := fr.size
     have uXpfz := fz.size
     replace fr := fr.trans (bV.mono fr.size)
     replace fz := fz.trans (bV.mono fz.size)
     replace A7 := A7.kept bV
     replace p7 := p7.below bV
     replace p2 := p2.below bV
     rw [← hVe]
     rw [← hXe] at Ap hXp ⊢
     clear hVe hXe bV
     refine hK.out _ _ (arr_range A7) (fun hHeld => ?_)
     clear hK K
     refine wpAnyH_ready (rs := [7]) (by kernel_rfl) (by simp) (AllReadyH.cons (o := qLVerifiesW3) rfl (fun K hK => ?_) AllReadyH.nil)
     rw [if_pos (by rfl)]
     refine wp_store_mid _ _ _ rfl _ _ ([.slice a9 16 c9, .slice b9 16 d9]).toArray rfl rfl (by have := arr_there Ap; simpa using this) infoPt (all_oneCell_toArray (by simp [Value.oneCell'])) ?_
     simp only [Act.put]
     have hlf := fr.size
     replace p2 := p2.sc i91 i92 (E := Xp) (by omega) ([.slice a9 16 c9, .slice b9 16 d9])
     replace Ap := Ap.sc0 ([.slice a9 16 c9, .slice b9 16 d9]) (by simp)
     replace fr := bel_sc fr Xp ([.slice a9 16 c9, .slice b9 16 d9]) (by omega)
     replace fz := bel_sc fz Xp ([.slice a9 16 c9, .slice b9 16 d9]) (by omega)
     replace A7 := A7.sc Xp ([.slice a9 16 c9, .slice b9 16 d9]) (by omega)
     obtain ⟨V11, hVe⟩ : ∃ V, V = V10.setCells Xp 0 ([.slice a9 16 c9, .slice b9 16 d9]) := ⟨_, rfl⟩
     rw [← hVe] at p2 Ap fr fz A7 ⊢
     clear hVe
     refine hK.out _ _ (arr_range A7) (fun hHeld => ?_)
     clear hK K
     refine wpAnyH_ready (rs := [8]) (by kernel_rfl) (by simp) (AllReadyH.cons (o := { dst := some 15, op := Op.assign (Operand.tmp 70), type := 4, pos := "laws.go:363", after := #[{ on := 5, ground := Ground.data }, { on := 7, ground := Ground.chain }, { on := 0, ground := Ground.phase }, { on := 1, ground := Ground.phase }, { on := 2, ground := Ground.phase }, { on := 3, ground := Ground.phase }, { on := 4, ground := Ground.phase }, { on := 5, ground := Ground.phase }, { on := 6, ground := Ground.phase }, { on := 7, ground := Ground.phase }], guard := none }) rfl (fun K hK => ?_) AllReadyH.nil)
     go_simp
     refine hK.out _ _ (arr_range A7) (fun hHeld => ?_)
     clear hK K
     refine wpAnyH_done (by kernel_rfl) ?_ _
     go_wp2
     go_meet
     case rel => exact ⟨Xp, a9, c9, b9, d9, rfl, Ap, p2.pi, fz⟩
    ·skip
     go_simp
     obtain ⟨V12, hVe⟩ : ∃ V, V = y8.alloc (.cells #[.slice none 0 0, .slice none 0 0] 33) := ⟨_, rfl⟩
     have bV : Below y8.heap.size y8 V12 := by rw [hVe]; exact (Below.refl _ _).alloc (Nat.le_refl _) _
     have Ap : Arr V12 y8.heap.size 33 ([.slice none 0 0, .slice none 0 0]) := by rw [hVe]; exact Arr.new _ ([.slice none 0 0, .slice none 0 0]) _
     have hXp : X7 < y8.heap.size ∧ True := ⟨A7.lt, trivial⟩
     obtain ⟨Xp, hXe⟩ : ∃ X, X = y8.heap.size := ⟨_, rfl⟩
     have sXp : y8.heap.size ≤ Xp := Nat.le_of_eq hXe.symm
     have uXpfr := fr.size
     have uXpfz := fz.size
     replace fr := fr.trans (bV.mono fr.size)
     replace fz := fz.trans (bV.mono fz.size)
     replace A7 := A7.kept bV
     replace p7 := p7.below bV
     replace p1 := p1.below bV
     rw [← hVe]
     rw [← hXe] at Ap hXp ⊢
     clear hVe hXe bV
     refine hK.out _ _ (arr_range A7) (fun hHeld => ?_)
     clear hK K
     refine wpAnyH_ready (rs := [2]) (by kernel_rfl) (by simp) (AllReadyH.cons (o := { dst := some 68, op := Op.call { callee := Callee.value (Operand.func 19), args := #[Operand.tmp 66, Operand.tmp 67], argTypes := #[33, 41] }, type := 39, pos := "laws.go:363", after := #[{ on := 0, ground := Ground.data }, { on := 1, ground := Ground.data }, { on := 0, ground := Ground.chain }], guard := none }) rfl (fun K hK => ?_) AllReadyH.nil)
     go_simp
     have hl2 : X7 < V12.heap.size := A7.lt
     have hlz := fz.size
     have hl3 := Ap.lt
     refine (H2.out _ _ _ _ _ _ _ p1.pi p7 fr).mono ?_
     rintro e y13 ⟨a9, c9, b9, d9, rfl, p2, hb13⟩
     replace fr := fr.trans (hb13.mono fr.size)
     replace fz := fz.trans (hb13.mono fz.size)
     replace A7 := A7.kept hb13
     replace p7 := p7.below hb13
     replace p1 := p1.below hb13
     replace Ap := Ap.kept hb13
     clear hb13
     clear p1
     have i91 := In.of p2.x
     have i92 := In.of p2.y
     go_wp2_with fail
     refine hK.out _ _ (arr_range A7) (fun hHeld => ?_)
     clear hK K
     refine wpAnyH_take (i := 3) (oi := qLVerifiesW0) (v := .tuple #[.agg #[.slice a9 16 c9, .slice b9 16 d9], .bool true]) rfl (by kernel_rfl) (by kernel_rfl) (by kernel_rfl) (fun _ _ _ h => h) (.inl ⟨by rfl, fun _ _ => by rfl⟩) (by assumption) ?_
     simp only [aP]
     refine wpAnyH_take (i := 4) (oi := qLVerifiesW1) (v := .agg #[.slice a9 16 c9, .slice b9 16 d9]) rfl (by kernel_rfl) (by kernel_rfl) (by kernel_rfl) (fun _ _ _ h => h) (.inl ⟨by rfl, fun _ _ => by rfl⟩) (by assumption) ?_
     simp only [aP]
     refine wpAnyH_take (i := 5) (oi := qLVerifiesW2) (v := .bool true) rfl (by kernel_rfl) (by kernel_rfl) (by kernel_rfl) (fun _ _ _ h => h) (.inl ⟨by rfl, fun _ _ => by rfl⟩) (by assumption) ?_
     simp only [aP]
     refine wpAnyH_ready (rs := [7]) (by kernel_rfl) (by simp) (AllReadyH.cons (o := qLVerifiesW3) rfl (fun K hK => ?_) AllReadyH.nil)
     rw [if_pos (by rfl)]
     refine wp_store_mid _ _ _ rfl _ _ ([.slice a9 16 c9, .slice b9 16 d9]).toArray rfl rfl (by have := arr_there Ap; simpa using this) infoPt (all_oneCell_toArray (by simp [Value.oneCell'])) ?_
     simp only [Act.put]
     have hlf := fr.size
     replace p2 := p2.sc i91 i92 (E := Xp) (by omega) ([.slice a9 16 c9, .slice b9 16 d9])
     replace Ap := Ap.sc0 ([.slice a9 16 c9, .slice b9 16 d9]) (by simp)
     replace fr := bel_sc fr Xp ([.slice a9 16 c9, .slice b9 16 d9]) (by omega)
     replace fz := bel_sc fz Xp ([.slice a9 16 c9, .slice b9 16 d9]) (by omega)
     replace A7 := A7.sc Xp ([.slice a9 16 c9, .slice b9 16 d9]) (by omega)
     obtain ⟨V14, hVe⟩ : ∃ V, V = y13.setCells Xp 0 ([.slice a9 16 c9, .slice b9 16 d9]) := ⟨_, rfl⟩
     rw [← hVe] at p2 Ap fr fz A7 ⊢
     clear hVe
     refine hK.out _ _ (arr_range A7) (fun hHeld => ?_)
     clear hK K
     refine wpAnyH_ready (rs := [8]) (by kernel_rfl) (by simp) (AllReadyH.cons (o := { dst := some 15, op := Op.assign (Operand.tmp 70), type := 4, pos := "laws.go:363", after := #[{ on := 5, ground := Ground.data }, { on := 7, ground := Ground.chain }, { on := 0, ground := Ground.phase }, { on := 1, ground := Ground.phase }, { on := 2, ground := Ground.phase }, { on := 3, ground := Ground.phase }, { on := 4, ground := Ground.phase }, { on := 5, ground := Ground.phase }, { on := 6, ground := Ground.phase }, { on := 7, ground := Ground.phase }], guard := none }) rfl (fun K hK => ?_) AllReadyH.nil)
     go_simp
     refine hK.out _ _ (arr_range A7) (fun hHeld => ?_)
     clear hK K
     refine wpAnyH_done (by kernel_rfl) ?_ _
     go_wp2
     go_meet
     case rel => exact ⟨Xp, a9, c9, b9, d9, rfl, Ap, p2.pi, fz⟩
   ·skip
    go_simp
    obtain ⟨V15, hVe⟩ : ∃ V, V = D7.alloc (.cells #[.slice none 0 0, .slice none 0 0] 33) := ⟨_, rfl⟩
    have bV : Below D7.heap.size D7 V15 := by rw [hVe]; exact (Below.refl _ _).alloc (Nat.le_refl _) _
    have Ap : Arr V15 D7.heap.size 33 ([.slice none 0 0, .slice none 0 0]) := by rw [hVe]; exact Arr.new _ ([.slice none 0 0, .slice none 0 0]) _
    have hXp : X7 < D7.heap.size ∧ True := ⟨A7.lt, trivial⟩
    obtain ⟨Xp, hXe⟩ : ∃ X, X = D7.heap.size := ⟨_, rfl⟩
    have sXp : D7.heap.size ≤ Xp := Nat.le_of_eq hXe.symm
    have uXpfr := fr.size
    have uXpfz := fz.size
    replace fr := fr.trans (bV.mono fr.size)
    replace fz := fz.trans (bV.mono fz.size)
    replace A7 := A7.kept bV
    replace p7 := p7.below bV
    rw [← hVe]
    rw [← hXe] at Ap hXp ⊢
    clear hVe hXe bV
    refine hK.out _ _ (arr_range A7) (fun hHeld => ?_)
    clear hK K
    refine wpAnyH_ready (rs := [0]) (by kernel_rfl) (by simp) (AllReadyH.cons (o := { dst := some 66, op := Op.call { callee := Callee.value (Operand.func 11), args := #[], argTypes := #[] }, type := 33, pos := "laws.go:363", after := #[], guard := none }) rfl (fun K hK => ?_) AllReadyH.nil)
    go_simp
    refine (H0.out _ fr).mono ?_
    rintro e y16 ⟨a1x, c1x, b1x, d1x, rfl, p1, hb16⟩
    replace fr := fr.trans (hb16.mono fr.size)
    replace fz := fz.trans (hb16.mono fz.size)
    replace A7 := A7.kept hb16
    replace p7 := p7.below hb16
    replace Ap := Ap.kept hb16
    clear hb16
    go_wp2_with fail
    refine hK.out _ _ (arr_range A7) (fun hHeld => ?_)
    clear hK K
    refine wpAnyH_ready (rs := [2]) (by kernel_rfl) (by simp) (AllReadyH.cons (o := { dst := some 68, op := Op.call { callee := Callee.value (Operand.func 19), args := #[Operand.tmp 66, Operand.tmp 67], argTypes := #[33, 41] }, type := 39, pos := "laws.go:363", after := #[{ on := 0, ground := Ground.data }, { on := 1, ground := Ground.data }, { on := 0, ground := Ground.chain }], guard := none }) rfl (fun K hK => ?_) AllReadyH.nil)
    go_simp
    have hl2 : X7 < y16.heap.size := A7.lt
    have hlz := fz.size
    have hl3 := Ap.lt
    refine (H2.out _ _ _ _ _ _ _ p1.pi p7 fr).mono ?_
    rintro e y17 ⟨a9, c9, b9, d9, rfl, p2, hb17⟩
    replace fr := fr.trans (hb17.mono fr.size)
    replace fz := fz.trans (hb17.mono fz.size)
    replace A7 := A7.kept hb17
    replace p7 := p7.below hb17
    replace Ap := Ap.kept hb17
    replace p1 := p1.below hb17
    clear hb17
    clear p1
    have i91 := In.of p2.x
    have i92 := In.of p2.y
    go_wp2_with fail
    refine hK.out _ _ (arr_range A7) (fun hHeld => ?_)
    clear hK K
    refine wpAnyH_take (i := 3) (oi := qLVerifiesW0) (v := .tuple #[.agg #[.slice a9 16 c9, .slice b9 16 d9], .bool true]) rfl (by kernel_rfl) (by kernel_rfl) (by kernel_rfl) (fun _ _ _ h => h) (.inl ⟨by rfl, fun _ _ => by rfl⟩) (by assumption) ?_
    simp only [aP]
    refine wpAnyH_take (i := 4) (oi := qLVerifiesW1) (v := .agg #[.slice a9 16 c9, .slice b9 16 d9]) rfl (by kernel_rfl) (by kernel_rfl) (by kernel_rfl) (fun _ _ _ h => h) (.inl ⟨by rfl, fun _ _ => by rfl⟩) (by assumption) ?_
    simp only [aP]
    refine wpAnyH_take (i := 5) (oi := qLVerifiesW2) (v := .bool true) rfl (by kernel_rfl) (by kernel_rfl) (by kernel_rfl) (fun _ _ _ h => h) (.inl ⟨by rfl, fun _ _ => by rfl⟩) (by assumption) ?_
    simp only [aP]
    refine wpAnyH_ready (rs := [7]) (by kernel_rfl) (by simp) (AllReadyH.cons (o := qLVerifiesW3) rfl (fun K hK => ?_) AllReadyH.nil)
    rw [if_pos (by rfl)]
    refine wp_store_mid _ _ _ rfl _ _ ([.slice a9 16 c9, .slice b9 16 d9]).toArray rfl rfl (by have := arr_there Ap; simpa using this) infoPt (all_oneCell_toArray (by simp [Value.oneCell'])) ?_
    simp only [Act.put]
    have hlf := fr.size
    replace p2 := p2.sc i91 i92 (E := Xp) (by omega) ([.slice a9 16 c9, .slice b9 16 d9])
    replace Ap := Ap.sc0 ([.slice a9 16 c9, .slice b9 16 d9]) (by simp)
    replace fr := bel_sc fr Xp ([.slice a9 16 c9, .slice b9 16 d9]) (by omega)
    replace fz := bel_sc fz Xp ([.slice a9 16 c9, .slice b9 16 d9]) (by omega)
    replace A7 := A7.sc Xp ([.slice a9 16 c9, .slice b9 16 d9]) (by omega)
    obtain ⟨V18, hVe⟩ : ∃ V, V = y17.setCells Xp 0 ([.slice a9 16 c9, .slice b9 16 d9]) := ⟨_, rfl⟩
    rw [← hVe] at p2 Ap fr fz A7 ⊢
    clear hVe
    refine hK.out _ _ (arr_range A7) (fun hHeld => ?_)
    clear hK K
    refine wpAnyH_ready (rs := [8]) (by kernel_rfl) (by simp) (AllReadyH.cons (o := { dst := some 15, op := Op.assign (Operand.tmp 70), type := 4, pos := "laws.go:363", after := #[{ on := 5, ground := Ground.data }, { on := 7, ground := Ground.chain }, { on := 0, ground := Ground.phase }, { on := 1, ground := Ground.phase }, { on := 2, ground := Ground.phase }, { on := 3, ground := Ground.phase }, { on := 4, ground := Ground.phase }, { on := 5, ground := Ground.phase }, { on := 6, ground := Ground.phase }, { on := 7, ground := Ground.phase }], guard := none }) rfl (fun K hK => ?_) AllReadyH.nil)
    go_simp
    refine hK.out _ _ (arr_range A7) (fun hHeld => ?_)
    clear hK K
    refine wpAnyH_done (by kernel_rfl) ?_ _
    go_wp2
    go_meet
    case rel => exact ⟨Xp, a9, c9, b9, d9, rfl, Ap, p2.pi, fz⟩
  case rest =>
   obtain ⟨Xp, a9, c9, b9, d9, rfl, Ap, p9, fw⟩ := hcut
   obtain ⟨C1, hwc⟩ : ∃ V, V = wc := ⟨_, rfl⟩
   rw [← hwc] at Ap p9 fw ⊢
   clear hwc
   clear A7 p7 fc
   replace fr := fr.trans (fw.mono fr.size)
   replace p5 := p5.below fw
   replace A5 := A5.kept fw
   replace p6 := p6.below fw
   replace A6 := A6.kept fw
   replace p8 := p8.below fw
   replace A8 := A8.kept fw
   clear fw fz
   have q0 : C1.cell? ⟨X5, 0, none⟩ = some (Value.slice a5 16 c5) := A5.cell 0
   have q1 : C1.cell? ⟨X5, 1, none⟩ = some (Value.slice b5 16 d5) := A5.cell 1
   have q2 : C1.cell? ⟨X8, 0, none⟩ = some (Value.slice a8 16 c8) := A8.cell 0
   go_wp2_with fail
   clear q0 q1 q2
   clear A5
   clear A8
   refine (H3.out _ _ _ _ _ _ _ p5 p8 fr).mono ?_
   rintro e y19 ⟨a10, c10, b10, d10, rfl, p10, hb19⟩
   replace fr := fr.trans (hb19.mono fr.size)
   replace p5 := p5.below hb19
   replace p6 := p6.below hb19
   replace A6 := A6.kept hb19
   replace p8 := p8.below hb19
   replace Ap := Ap.kept hb19
   replace p9 := p9.below hb19
   clear hb19
   clear p5
   clear p8
   go_upto_region 10 with fail
   obtain ⟨Z10, hV⟩ : ∃ Z, Z = y19.alloc (.cells #[.slice a10 16 c10, .slice b10 16 d10] 33) := ⟨_, rfl⟩
   have bV : Below y19.heap.size y19 Z10 := by rw [hV]; exact (Below.refl _ _).alloc (Nat.le_refl _) _
   have A10 : Arr Z10 y19.heap.size 33 [.slice a10 16 c10, .slice b10 16 d10] := by rw [hV]; exact Arr.new _ _ _
   rw [← hV]
   replace fr := fr.trans (bV.mono fr.size)
   replace p6 := p6.below bV
   replace A6 := A6.kept bV
   replace Ap := Ap.kept bV
   replace p9 := p9.below bV
   replace p10 := p10.below bV
   clear hV bV
   obtain ⟨X10, hX⟩ : ∃ X, X = y19.heap.size := ⟨_, rfl⟩
   rw [← hX] at A10 ⊢
   clear hX
   have q0 : Z10.cell? ⟨X6, 0, none⟩ = some (Value.slice a6 16 c6) := A6.cell 0
   have q1 : Z10.cell? ⟨X6, 1, none⟩ = some (Value.slice b6 16 d6) := A6.cell 1
   have q2 : Z10.cell? ⟨X10, 0, none⟩ = some (Value.slice a10 16 c10) := A10.cell 0
   have q3 : Z10.cell? ⟨X10, 1, none⟩ = some (Value.slice b10 16 d10) := A10.cell 1
   go_wp2_with fail
   clear q0 q1 q2 q3
   clear A6
   clear A10
   refine (H5.out _ _ _ _ _ _ _ _ _ p6 p10.pi fr).mono ?_
   rintro e y20 ⟨a12, c12, b12, d12, rfl, p12, hb20⟩
   replace fr := fr.trans (hb20.mono fr.size)
   replace p6 := p6.below hb20
   replace Ap := Ap.kept hb20
   replace p9 := p9.below hb20
   replace p10 := p10.below hb20
   clear hb20
   clear p6
   clear p10
   go_upto_region 11 with fail
   obtain ⟨Z12, hV⟩ : ∃ Z, Z = y20.alloc (.cells #[.slice a12 16 c12, .slice b12 16 d12] 33) := ⟨_, rfl⟩
   have bV : Below y20.heap.size y20 Z12 := by rw [hV]; exact (Below.refl _ _).alloc (Nat.le_refl _) _
   have A12 : Arr Z12 y20.heap.size 33 [.slice a12 16 c12, .slice b12 16 d12] := by rw [hV]; exact Arr.new _ _ _
   rw [← hV]
   replace fr := fr.trans (bV.mono fr.size)
   replace Ap := Ap.kept bV
   replace p9 := p9.below bV
   replace p12 := p12.below bV
   clear hV bV
   obtain ⟨X12, hX⟩ : ∃ X, X = y20.heap.size := ⟨_, rfl⟩
   rw [← hX] at A12 ⊢
   clear hX
   have q0 : Z12.cell? ⟨Xp, 0, none⟩ = some (Value.slice a9 16 c9) := Ap.cell 0
   have q1 : Z12.cell? ⟨Xp, 1, none⟩ = some (Value.slice b9 16 d9) := Ap.cell 1
   have q2 : Z12.cell? ⟨X12, 0, none⟩ = some (Value.slice a12 16 c12) := A12.cell 0
   have q3 : Z12.cell? ⟨X12, 1, none⟩ = some (Value.slice b12 16 d12) := A12.cell 1
   go_wp2_with fail
   refine (samePtC a9 a12 16 c9 c12 _ b9 b12 16 d9 d12 _ _ p9.x p12.pi.x p9.y p12.pi.y (by omega) (by omega)).mono ?_
   rintro e z ⟨rfl, hb⟩
   replace fr := fr.trans (hb.mono fr.size)
   go_wp2
   go_ret
   exact ⟨rfl, fr⟩

end Go.Proofs.YtihoaakbkffejaaGreatDoor

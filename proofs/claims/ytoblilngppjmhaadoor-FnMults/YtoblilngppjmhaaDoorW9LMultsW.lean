/-
  What is proved here: the law FnMults returns true at every code, and writes into nothing that was there; where the program's variables hold what its text lays into them.
-/
import Derived.Test.YtoblilngppjmhaaDoorW9Zrr
import Derived.Test.YtoblilngppjmhaaDoorW9Km
import Derived.Test.YtoblilngppjmhaaDoorW9Yh
namespace Go.Proofs.YtoblilngppjmhaaDoor
open Go.RowKit
set_option maxRecDepth 100000

set_option maxHeartbeats 16000000 in
theorem walk_fnMults (w : World) (ab : Option Addr) (nb cb : Nat) (bs : List Int) (hB : Bs w ab nb cb bs) (hre : nb ≤ 140737488351232) (kVv : Vr w 4 (I64 PL)) (kDv : Vr w 2 (I64 DL)) (kOv : Vr w 3 (I64 OL)) (kXv : Vr w 0 (I64 BX)) (kYv : Vr w 1 (I64 BY)) :
  Calls Tryd.prog 4 #[.slice ab nb cb] w fun e w' => e = .returned (.bool true) ∧ Below w.heap.size w w' := by
 haveI := nzP
 have B : Below w.heap.size w w := Below.refl _ _
 have HMK : Hid (∀ (w : World) (ty : TypeId), ∃ v w', (Builtin.append_ #[22, 3] ty #[.slice (some ⟨w.heap.size, 0, none⟩) 1 1, .int .i64 31]).run Tryd.prog (w.alloc (.cells #[.int .u8 1] 5)) = .ok v w' ∧ (∃ a c, v = .slice a 32 c ∧ Bs w' a 32 c oneB) ∧ Below w.heap.size w w') := mk_one
 obtain ⟨OB, hOB⟩ : ∃ l, l = oneB := ⟨_, rfl⟩
 obtain ⟨RO, hRO⟩ : ∃ l, l = redO 1 := ⟨_, rfl⟩
 have HOK : Hid (scOk RO = true) := by unfold Hid; rw [hRO]; exact redO_ok 1
 have HO1 : Hid (∀ (a : Option Addr) (c : Nat) (Z : World), Bs Z a 32 c OB → Vr Z 3 (I64 OL) → Calls Tryd.prog 26 #[.slice a 32 c] Z fun e w' => ∃ a1 c1, e = .returned (.tuple #[.agg #[.slice a1 16 c1], .bool true]) ∧ Is w' a1 16 c1 RO ∧ Below Z.heap.size Z w') := by
  unfold Hid; intro a c Z h hO; rw [hRO]; rw [hOB] at h; exact okOne a c Z h hO
 rw [← hOB] at HMK
 have HRO : Hid (RO = redO 1) := hRO
 clear hOB hRO
 go_enter Tryd.func4, Tryd.ntmps4
 go_wp2_with fail
 refine (drawPtMul ab nb cb bs _ (hB.below B) (by omega)).mono ?_
 rintro e w1 ⟨vA, l1, l2, vB, ks, rfl, ⟨a1, n1, c1, b1, j1, d1, rfl, x1, y1, _, _, nm1, nk1⟩, ⟨ak, nk, ck, rfl, ik, _, nmk⟩, hb1⟩
 replace B := B.trans (hb1.mono B.size)
 replace kVv := kVv.kept hb1
 replace kDv := kDv.kept hb1
 replace kOv := kOv.kept hb1
 replace kXv := kXv.kept hb1
 replace kYv := kYv.kept hb1
 clear hb1
 have A0 : Arr ((w1.alloc (.cells #[.slice none 0 0, .slice none 0 0] 27)).alloc (.cells #[.slice none 0 0] 37)) w1.heap.size 27 [.slice none 0 0, .slice none 0 0] := (Arr.new w1 [.slice none 0 0, .slice none 0 0] _).alloc _
 obtain ⟨Va, hVa⟩ : ∃ V, V = ((w1.alloc (.cells #[.slice none 0 0, .slice none 0 0] 27)).alloc (.cells #[.slice none 0 0] 37)).setRow w1.heap.size ([Value.slice a1 n1 c1, Value.slice b1 j1 d1] : List Value).toArray := ⟨_, rfl⟩
 have bVa : Below w1.heap.size w1 Va := by rw [hVa]; exact setRow_below (((Below.refl _ _).alloc (Nat.le_refl _) _).alloc (by simp) _) _ _ (Nat.le_refl _)
 have E1a : Arr Va w1.heap.size 27 [Value.slice a1 n1 c1, Value.slice b1 j1 d1] := by rw [hVa]; exact A0.row _
 have EKa : Arr Va (w1.heap.size + 1) 37 [.slice none 0 0] := by
  rw [hVa]
  have := Arr.new (w1.alloc (.cells #[.slice none 0 0, .slice none 0 0] 27)) [.slice none 0 0] 37
  rw [World.size_alloc] at this
  exact this.rowOther _ _ (by omega)
 have cK := EKa.cell 0
 have fK := EKa.frozen 0
 go_upto_region 2 with (refine wpList_store_row rfl 27 _ _ rfl w1.heap.size ([Value.slice a1 n1 c1, Value.slice b1 j1 d1]).toArray rfl rfl 27 _ A0 infoPt rfl (by simp [Value.oneCell']) ?_; rw [← hVa]; clear hVa A0)
 obtain ⟨Vb, hVb⟩ : ∃ V, V = Va.setCell ⟨w1.heap.size + 1, 0, none⟩ (.slice ak nk ck) := ⟨_, rfl⟩
 rw [← hVb]
 have bV : Below w1.heap.size w1 Vb := by rw [hVb]; exact bVa.setCell (p := ⟨w1.heap.size + 1, 0, none⟩) (by show w1.heap.size ≤ w1.heap.size + 1; omega) _
 have E1 : Arr Vb w1.heap.size 27 [Value.slice a1 n1 c1, Value.slice b1 j1 d1] := by rw [hVb]; exact E1a.other ⟨w1.heap.size + 1, 0, none⟩ _ (by show w1.heap.size ≠ w1.heap.size + 1; omega)
 have EK : Arr Vb (w1.heap.size + 1) 37 [Value.slice ak nk ck] := by rw [hVb]; exact EKa.set 0 _
 replace B := B.trans (bV.mono B.size)
 replace kVv := kVv.kept bV
 replace kDv := kDv.kept bV
 replace kOv := kOv.kept bV
 replace kXv := kXv.kept bV
 replace kYv := kYv.kept bV
 replace x1 := x1.below bV
 replace y1 := y1.below bV
 replace ik := ik.below bV
 clear bV bVa E1a EKa cK fK hVb
 have cEK0 : Vb.cell? ⟨w1.heap.size + 1, 0, none⟩ = some (Value.slice ak nk ck) := EK.cell 0
 go_wp2_with (first
   | (refine wpList_load_row rfl 27 _ rfl (w1.heap.size) rfl 27 ([Value.slice a1 n1 c1, Value.slice b1 j1 d1]).toArray (0, 0) _ E1 Tryd.underlying27 rfl infoPt ?_)
   | (refine wpList_load_rowW rfl 27 _ rfl (w1.heap.size) rfl 27 ([Value.slice a1 n1 c1, Value.slice b1 j1 d1]).toArray (0, 0) _ E1 Tryd.underlying27 rfl infoPt ?_))
 clear cEK0
 refine (implPtMul a1 n1 c1 l1 b1 j1 d1 l2 ak nk ck ks _ x1 y1 ik kVv kDv kOv).mono ?_
 rintro e w2 ⟨vS, rfl, ⟨aS, cS, bS, dS, rfl, oS, uS, _⟩, hb2⟩
 replace B := B.trans (hb2.mono B.size)
 replace kVv := kVv.kept hb2
 replace kDv := kDv.kept hb2
 replace kOv := kOv.kept hb2
 replace kXv := kXv.kept hb2
 replace kYv := kYv.kept hb2
 replace x1 := x1.below hb2
 replace y1 := y1.below hb2
 replace ik := ik.below hb2
 replace E1 := E1.kept hb2
 replace EK := EK.kept hb2
 clear hb2
 have iS := is_of_own oS (ptx_int _ _)
 have kS := is_of_own uS (pty_int _ _)
 clear oS uS
 obtain ⟨p, hp⟩ : ∃ p, p = ptOk l1 l2 := ⟨_, rfl⟩
 obtain ⟨q, hq⟩ : ∃ q, q = scOk ks := ⟨_, rfl⟩
 rw [← hp, ← hq] at iS kS ⊢
 obtain ⟨SX, hSX⟩ : ∃ l, l = ptx (p && q) (mul6 (mk6 l1 l2) (val ks).toNat) := ⟨_, rfl⟩
 obtain ⟨SY, hSY⟩ : ∃ l, l = pty (p && q) (mul6 (mk6 l1 l2) (val ks).toNat) := ⟨_, rfl⟩
 rw [← hSX] at iS ⊢
 rw [← hSY] at kS ⊢
 obtain ⟨nS, hnS⟩ : ∃ n, n = SX.length := ⟨_, rfl⟩
 obtain ⟨jS, hjS⟩ : ∃ n, n = SY.length := ⟨_, rfl⟩
 rw [← hnS] at iS ⊢
 rw [← hjS] at kS ⊢
 have HN : Hid ((p && q) = false → nS = 0) := by unfold Hid; intro h; rw [hnS, hSX, h]; rfl
 have HY : Hid (p = true → q = true → (SX = cx (pMul dK ivK (val ks).toNat (pt l1 l2)).1 ∧ SY = cx (pMul dK ivK (val ks).toNat (pt l1 l2)).2) ∧ nS = 16 ∧ jS = 16) := by
  unfold Hid; intro h k; have h' := h; have k' := k; rw [hp] at h; rw [hq] at k; obtain ⟨q1, q2⟩ := pt_mul h (val ks).toNat (Nat.lt_trans (sc_253 k) (by decide))
  have f1 : SX = cx (pMul dK ivK (val ks).toNat (pt l1 l2)).1 := by rw [hSX, h', k']; exact q1
  have f2 : SY = cx (pMul dK ivK (val ks).toNat (pt l1 l2)).2 := by rw [hSY, h', k']; exact q2
  exact ⟨⟨f1, f2⟩, by rw [hnS, f1, cx_len], by rw [hjS, f2, cx_len]⟩
 have HP : Hid (p = ptOk l1 l2) := hp
 have HQ : Hid (q = scOk ks) := hq
 clear hp hq hSX hSY hnS hjS
 obtain ⟨bV, ES, A0, _⟩ := laid_two w2 27 (.slice none 0 0) (.slice none 0 0) (.slice aS nS cS) (.slice bS jS dS)
 obtain ⟨V3, hV3⟩ : ∃ V, V = (w2.alloc (.cells #[.slice none 0 0, .slice none 0 0] 27)).setRow w2.heap.size ([Value.slice aS nS cS, Value.slice bS jS dS] : List Value).toArray := ⟨_, rfl⟩
 rw [← hV3] at bV ES
 replace B := B.trans (bV.mono B.size)
 replace kVv := kVv.kept bV
 replace kDv := kDv.kept bV
 replace kOv := kOv.kept bV
 replace kXv := kXv.kept bV
 replace kYv := kYv.kept bV
 replace x1 := x1.below bV
 replace y1 := y1.below bV
 replace ik := ik.below bV
 replace E1 := E1.kept bV
 replace EK := EK.kept bV
 replace iS := iS.below bV
 replace kS := kS.below bV
 clear bV
 go_wp2_with (first
   | (refine wpList_store_row rfl 27 _ _ rfl w2.heap.size ([Value.slice aS nS cS, Value.slice bS jS dS]).toArray rfl rfl 27 _ A0 infoPt rfl (by simp [Value.oneCell']) ?_; rw [← hV3]; clear hV3 A0)
   | (refine wpList_load_row rfl 27 _ rfl (w1.heap.size) rfl 27 ([Value.slice a1 n1 c1, Value.slice b1 j1 d1]).toArray (0, 0) _ E1 Tryd.underlying27 rfl infoPt ?_)
   | (refine wpList_load_rowW rfl 27 _ rfl (w1.heap.size) rfl 27 ([Value.slice a1 n1 c1, Value.slice b1 j1 d1]).toArray (0, 0) _ E1 Tryd.underlying27 rfl infoPt ?_))
 refine (specPtOk a1 n1 c1 l1 b1 j1 d1 l2 _ x1 y1).mono ?_
 rintro e w4 ⟨rfl, hb4⟩
 replace B := B.trans (hb4.mono B.size)
 replace kVv := kVv.kept hb4
 replace kDv := kDv.kept hb4
 replace kOv := kOv.kept hb4
 replace kXv := kXv.kept hb4
 replace kYv := kYv.kept hb4
 replace x1 := x1.below hb4
 replace y1 := y1.below hb4
 replace ik := ik.below hb4
 replace E1 := E1.kept hb4
 replace EK := EK.kept hb4
 replace iS := iS.below hb4
 replace kS := kS.below hb4
 replace ES := ES.kept hb4
 clear hb4
 rw [← HP.out]
 cases p with
 | false =>
  have hn0 := HN.out (by simp)
  subst hn0
  have cES0 : w4.cell? ⟨w2.heap.size, 0, none⟩ = some (Value.slice aS 0 cS) := ES.cell 0
  have cES1 : w4.cell? ⟨w2.heap.size, 1, none⟩ = some (Value.slice bS jS dS) := ES.cell 1
  go_wp2_with fail
  clear cES0 cES1
  refine (okPBase _ kXv kYv).mono ?_
  rintro e w5 ⟨aZ, cZ, bZ, dZ, rfl, iZ, hb5⟩
  replace B := B.trans (hb5.mono B.size)
  replace kVv := kVv.kept hb5
  replace kDv := kDv.kept hb5
  replace kOv := kOv.kept hb5
  replace kXv := kXv.kept hb5
  replace kYv := kYv.kept hb5
  replace x1 := x1.below hb5
  replace y1 := y1.below hb5
  replace ik := ik.below hb5
  replace E1 := E1.kept hb5
  replace EK := EK.kept hb5
  replace iS := iS.below hb5
  replace kS := kS.below hb5
  replace ES := ES.kept hb5
  clear hb5
  go_wp2_with fail
  refine (okPOk aZ cZ bZ dZ _ _ iZ on_base kVv kDv).mono ?_
  rintro e w6 ⟨rfl, hb6⟩
  replace B := B.trans (hb6.mono B.size)
  replace kVv := kVv.kept hb6
  replace kDv := kDv.kept hb6
  replace kOv := kOv.kept hb6
  replace kXv := kXv.kept hb6
  replace kYv := kYv.kept hb6
  replace x1 := x1.below hb6
  replace y1 := y1.below hb6
  replace ik := ik.below hb6
  replace E1 := E1.kept hb6
  replace EK := EK.kept hb6
  replace iS := iS.below hb6
  replace kS := kS.below hb6
  replace ES := ES.kept hb6
  replace iZ := iZ.below hb6
  clear hb6
  go_wp2_with fail
  go_ret
  exact ⟨rfl, B⟩
 | true =>
  have cEK0 : w4.cell? ⟨w1.heap.size + 1, 0, none⟩ = some (Value.slice ak nk ck) := EK.cell 0
  go_wp2_with fail
  clear cEK0
  refine (specScOk ak nk ck ks _ ik).mono ?_
  rintro e w7 ⟨rfl, hb7⟩
  replace B := B.trans (hb7.mono B.size)
  replace kVv := kVv.kept hb7
  replace kDv := kDv.kept hb7
  replace kOv := kOv.kept hb7
  replace kXv := kXv.kept hb7
  replace kYv := kYv.kept hb7
  replace x1 := x1.below hb7
  replace y1 := y1.below hb7
  replace ik := ik.below hb7
  replace E1 := E1.kept hb7
  replace EK := EK.kept hb7
  replace iS := iS.below hb7
  replace kS := kS.below hb7
  replace ES := ES.kept hb7
  clear hb7
  rw [← HQ.out]
  cases q with
  | false =>
   have hn0 := HN.out (by simp)
   subst hn0
   have cES0 : w7.cell? ⟨w2.heap.size, 0, none⟩ = some (Value.slice aS 0 cS) := ES.cell 0
   have cES1 : w7.cell? ⟨w2.heap.size, 1, none⟩ = some (Value.slice bS jS dS) := ES.cell 1
   go_wp2_with fail
   clear cES0 cES1
   refine (okPBase _ kXv kYv).mono ?_
   rintro e w8 ⟨aZ, cZ, bZ, dZ, rfl, iZ, hb8⟩
   replace B := B.trans (hb8.mono B.size)
   replace kVv := kVv.kept hb8
   replace kDv := kDv.kept hb8
   replace kOv := kOv.kept hb8
   replace kXv := kXv.kept hb8
   replace kYv := kYv.kept hb8
   replace x1 := x1.below hb8
   replace y1 := y1.below hb8
   replace ik := ik.below hb8
   replace E1 := E1.kept hb8
   replace EK := EK.kept hb8
   replace iS := iS.below hb8
   replace kS := kS.below hb8
   replace ES := ES.kept hb8
   clear hb8
   go_wp2_with fail
   refine (okPOk aZ cZ bZ dZ _ _ iZ on_base kVv kDv).mono ?_
   rintro e w9 ⟨rfl, hb9⟩
   replace B := B.trans (hb9.mono B.size)
   replace kVv := kVv.kept hb9
   replace kDv := kDv.kept hb9
   replace kOv := kOv.kept hb9
   replace kXv := kXv.kept hb9
   replace kYv := kYv.kept hb9
   replace x1 := x1.below hb9
   replace y1 := y1.below hb9
   replace ik := ik.below hb9
   replace E1 := E1.kept hb9
   replace EK := EK.kept hb9
   replace iS := iS.below hb9
   replace kS := kS.below hb9
   replace ES := ES.kept hb9
   replace iZ := iZ.below hb9
   clear hb9
   go_wp2_with fail
   go_ret
   exact ⟨rfl, B⟩
  | true =>
   have hA := HP.out.symm
   have hk := HQ.out.symm
   obtain ⟨⟨e1, e2⟩, hn, hj⟩ := HY.out (by simp) (by simp)
   subst hn hj
   have oA := pt_on hA
   obtain ⟨P, hP⟩ : ∃ P, P = pt l1 l2 := ⟨_, rfl⟩
   rw [← hP] at oA e1 e2
   have g3 : nk = 16 := by rw [← ik.2.1]; exact sc_16 hk
   subst g3
   rw [e1] at iS
   rw [e2] at kS
   have iSS : PI w7 aS cS bS dS (pMul dK ivK (val ks).toNat P) := ⟨iS, kS⟩
   have oS := crvK.on_mul oA (val ks).toNat
   have oY := crvK.on_mul on_base (val ks).toNat
   have HE : Hid (pMul dK ivK (val (redO (val ks + val RO))).toNat baseK = pAdd dK ivK (pMul dK ivK (val ks).toNat baseK) baseK) := by unfold Hid; rw [HRO.out]; exact next_lists hk
   obtain ⟨J, hJ⟩ : ∃ J, J = redO (val ks + val RO) := ⟨_, rfl⟩
   rw [← hJ] at HE
   have HJ : Hid (scOk J = true) := by unfold Hid; rw [hJ]; exact redO_ok _
   have HAD : Hid (∀ (b : Option Addr) (d : Nat) (Z : World), Is Z ak 16 ck ks → Is Z b 16 d RO → Vr Z 3 (I64 OL) → Calls Tryd.prog 27 #[.agg #[.slice ak 16 ck], .agg #[.slice b 16 d]] Z fun e w' => ∃ a1 c1, e = .returned (.tuple #[.agg #[.slice a1 16 c1], .bool true]) ∧ Is w' a1 16 c1 J ∧ Below Z.heap.size Z w') := by
    unfold Hid; intro b d Z h1 h2 h3; rw [hJ]; exact okScAdd ak ck ks b d RO Z h1 h2 hk HOK.out h3
   have HK : Hid (scOk ks = true) := hk
   clear x1
   clear y1
   clear iS
   clear kS
   clear hA hk e1 e2 hP HP HQ HN HY hJ
   clear E1
   obtain ⟨vO, wO, hrO, ⟨aU, cU, rfl, iU⟩, bO⟩ := HMK.out w7 22
   go_wp2_with (at_builtin; refine Lib.wpList_append_run _ rfl _ _ _ _ rfl _ _ rfl rfl _ _ hrO ?_)
   replace B := B.trans (bO.mono B.size)
   replace kVv := kVv.kept bO
   replace kDv := kDv.kept bO
   replace kOv := kOv.kept bO
   replace kXv := kXv.kept bO
   replace kYv := kYv.kept bO
   replace ik := ik.below bO
   replace EK := EK.kept bO
   replace ES := ES.kept bO
   replace iSS := iSS.below bO
   clear hrO bO
   refine (HO1.out aU cU _ iU kOv).mono ?_
   rintro e w10 ⟨aO, cO, rfl, iO, hb10⟩
   replace B := B.trans (hb10.mono B.size)
   replace kVv := kVv.kept hb10
   replace kDv := kDv.kept hb10
   replace kOv := kOv.kept hb10
   replace kXv := kXv.kept hb10
   replace kYv := kYv.kept hb10
   replace ik := ik.below hb10
   replace EK := EK.kept hb10
   replace ES := ES.kept hb10
   replace iSS := iSS.below hb10
   clear hb10
   clear iU
   obtain ⟨V11, hV11⟩ : ∃ V, V = w10.alloc (.cells #[.slice aO 16 cO] 37) := ⟨_, rfl⟩
   have bV : Below w10.heap.size w10 V11 := by rw [hV11]; exact (Below.refl _ _).alloc (Nat.le_refl _) _
   have EO : Arr V11 w10.heap.size 37 [.slice aO 16 cO] := by rw [hV11]; exact Arr.new w10 [.slice aO 16 cO] _
   replace B := B.trans (bV.mono B.size)
   replace kVv := kVv.kept bV
   replace kDv := kDv.kept bV
   replace kOv := kOv.kept bV
   replace kXv := kXv.kept bV
   replace kYv := kYv.kept bV
   replace ik := ik.below bV
   replace EK := EK.kept bV
   replace ES := ES.kept bV
   replace iSS := iSS.below bV
   replace iO := iO.below bV
   clear bV
   go_wp2_with fail
   rw [← hV11]
   clear hV11
   refine (okPBase _ kXv kYv).mono ?_
   rintro e w12 ⟨aZ, cZ, bZ, dZ, rfl, iZ, hb12⟩
   replace B := B.trans (hb12.mono B.size)
   replace kVv := kVv.kept hb12
   replace kDv := kDv.kept hb12
   replace kOv := kOv.kept hb12
   replace kXv := kXv.kept hb12
   replace kYv := kYv.kept hb12
   replace ik := ik.below hb12
   replace EK := EK.kept hb12
   replace ES := ES.kept hb12
   replace iSS := iSS.below hb12
   replace iO := iO.below hb12
   replace EO := EO.kept hb12
   clear hb12
   obtain ⟨bV, EZ, A0, _⟩ := laid_two w12 27 (.slice none 0 0) (.slice none 0 0) (.slice aZ 16 cZ) (.slice bZ 16 dZ)
   obtain ⟨V13, hV13⟩ : ∃ V, V = (w12.alloc (.cells #[.slice none 0 0, .slice none 0 0] 27)).setRow w12.heap.size ([Value.slice aZ 16 cZ, Value.slice bZ 16 dZ] : List Value).toArray := ⟨_, rfl⟩
   rw [← hV13] at bV EZ
   replace B := B.trans (bV.mono B.size)
   replace kVv := kVv.kept bV
   replace kDv := kDv.kept bV
   replace kOv := kOv.kept bV
   replace kXv := kXv.kept bV
   replace kYv := kYv.kept bV
   replace ik := ik.below bV
   replace EK := EK.kept bV
   replace ES := ES.kept bV
   replace iSS := iSS.below bV
   replace iO := iO.below bV
   replace EO := EO.kept bV
   replace iZ := iZ.below bV
   clear bV
   have cEK0 : V13.cell? ⟨w1.heap.size + 1, 0, none⟩ = some (Value.slice ak 16 ck) := EK.cell 0
   go_wp2_with (first
     | (refine wpList_store_row rfl 27 _ _ rfl w12.heap.size ([Value.slice aZ 16 cZ, Value.slice bZ 16 dZ]).toArray rfl rfl 27 _ A0 infoPt rfl (by simp [Value.oneCell']) ?_; rw [← hV13]; clear hV13 A0)
     | (refine wpList_load_row rfl 27 _ rfl (w12.heap.size) rfl 27 ([Value.slice aZ 16 cZ, Value.slice bZ 16 dZ]).toArray (0, 0) _ EZ Tryd.underlying27 rfl infoPt ?_)
     | (refine wpList_load_rowW rfl 27 _ rfl (w12.heap.size) rfl 27 ([Value.slice aZ 16 cZ, Value.slice bZ 16 dZ]).toArray (0, 0) _ EZ Tryd.underlying27 rfl infoPt ?_))
   clear cEK0
   refine (okPMul aZ cZ bZ dZ _ ak ck _ _ iZ ik on_base HK.out kVv kDv kOv).mono ?_
   rintro e w14 ⟨aY, cY, bY, dY, rfl, iY, hb14⟩
   replace B := B.trans (hb14.mono B.size)
   replace kVv := kVv.kept hb14
   replace kDv := kDv.kept hb14
   replace kOv := kOv.kept hb14
   replace kXv := kXv.kept hb14
   replace kYv := kYv.kept hb14
   replace ik := ik.below hb14
   replace EK := EK.kept hb14
   replace ES := ES.kept hb14
   replace iSS := iSS.below hb14
   replace iO := iO.below hb14
   replace EO := EO.kept hb14
   replace iZ := iZ.below hb14
   replace EZ := EZ.kept hb14
   clear hb14
   obtain ⟨bV, EY, A0, _⟩ := laid_two w14 27 (.slice none 0 0) (.slice none 0 0) (.slice aY 16 cY) (.slice bY 16 dY)
   obtain ⟨V15, hV15⟩ : ∃ V, V = (w14.alloc (.cells #[.slice none 0 0, .slice none 0 0] 27)).setRow w14.heap.size ([Value.slice aY 16 cY, Value.slice bY 16 dY] : List Value).toArray := ⟨_, rfl⟩
   rw [← hV15] at bV EY
   replace B := B.trans (bV.mono B.size)
   replace kVv := kVv.kept bV
   replace kDv := kDv.kept bV
   replace kOv := kOv.kept bV
   replace kXv := kXv.kept bV
   replace kYv := kYv.kept bV
   replace ik := ik.below bV
   replace EK := EK.kept bV
   replace ES := ES.kept bV
   replace iSS := iSS.below bV
   replace iO := iO.below bV
   replace EO := EO.kept bV
   replace iZ := iZ.below bV
   replace EZ := EZ.kept bV
   replace iY := iY.below bV
   clear bV
   have cEK0 : V15.cell? ⟨w1.heap.size + 1, 0, none⟩ = some (Value.slice ak 16 ck) := EK.cell 0
   have cEO0 : V15.cell? ⟨w10.heap.size, 0, none⟩ = some (Value.slice aO 16 cO) := EO.cell 0
   go_wp2_with (refine wpList_store_row rfl 27 _ _ rfl w14.heap.size ([Value.slice aY 16 cY, Value.slice bY 16 dY]).toArray rfl rfl 27 _ A0 infoPt rfl (by simp [Value.oneCell']) ?_; rw [← hV15]; clear hV15 A0)
   clear cEK0 cEO0
   refine (HAD.out aO cO _ ik iO kOv).mono ?_
   rintro e w16 ⟨aJ, cJ, rfl, iJ, hb16⟩
   replace B := B.trans (hb16.mono B.size)
   replace kVv := kVv.kept hb16
   replace kDv := kDv.kept hb16
   replace kOv := kOv.kept hb16
   replace kXv := kXv.kept hb16
   replace kYv := kYv.kept hb16
   replace ik := ik.below hb16
   replace EK := EK.kept hb16
   replace ES := ES.kept hb16
   replace iSS := iSS.below hb16
   replace iO := iO.below hb16
   replace EO := EO.kept hb16
   replace iZ := iZ.below hb16
   replace EZ := EZ.kept hb16
   replace iY := iY.below hb16
   replace EY := EY.kept hb16
   clear hb16
   obtain ⟨V17, hV17⟩ : ∃ V, V = w16.alloc (.cells #[.slice aJ 16 cJ] 37) := ⟨_, rfl⟩
   have bV : Below w16.heap.size w16 V17 := by rw [hV17]; exact (Below.refl _ _).alloc (Nat.le_refl _) _
   have EJ : Arr V17 w16.heap.size 37 [.slice aJ 16 cJ] := by rw [hV17]; exact Arr.new w16 [.slice aJ 16 cJ] _
   replace B := B.trans (bV.mono B.size)
   replace kVv := kVv.kept bV
   replace kDv := kDv.kept bV
   replace kOv := kOv.kept bV
   replace kXv := kXv.kept bV
   replace kYv := kYv.kept bV
   replace ik := ik.below bV
   replace EK := EK.kept bV
   replace ES := ES.kept bV
   replace iSS := iSS.below bV
   replace iO := iO.below bV
   replace EO := EO.kept bV
   replace iZ := iZ.below bV
   replace EZ := EZ.kept bV
   replace iY := iY.below bV
   replace EY := EY.kept bV
   replace iJ := iJ.below bV
   clear bV
   have cEZ0 : V17.cell? ⟨w12.heap.size, 0, none⟩ = some (Value.slice aZ 16 cZ) := EZ.cell 0
   have cEZ1 : V17.cell? ⟨w12.heap.size, 1, none⟩ = some (Value.slice bZ 16 dZ) := EZ.cell 1
   have cEJ0 : V17.cell? ⟨w16.heap.size, 0, none⟩ = some (Value.slice aJ 16 cJ) := EJ.cell 0
   rw [hV17] at cEZ0
   rw [hV17] at cEZ1
   rw [hV17] at cEJ0
   go_wp2_with fail
   rw [← hV17]
   clear cEZ0 cEZ1 cEJ0 hV17
   refine (okPMul aZ cZ bZ dZ _ aJ cJ _ _ iZ iJ on_base HJ.out kVv kDv kOv).mono ?_
   rintro e w18 ⟨aU, cU, bU, dU, rfl, iU, hb18⟩
   replace B := B.trans (hb18.mono B.size)
   replace kVv := kVv.kept hb18
   replace kDv := kDv.kept hb18
   replace kOv := kOv.kept hb18
   replace kXv := kXv.kept hb18
   replace kYv := kYv.kept hb18
   replace ik := ik.below hb18
   replace EK := EK.kept hb18
   replace ES := ES.kept hb18
   replace iSS := iSS.below hb18
   replace iO := iO.below hb18
   replace EO := EO.kept hb18
   replace iZ := iZ.below hb18
   replace EZ := EZ.kept hb18
   replace iY := iY.below hb18
   replace EY := EY.kept hb18
   replace iJ := iJ.below hb18
   replace EJ := EJ.kept hb18
   clear hb18
   obtain ⟨bV, EU, A0, _⟩ := laid_two w18 27 (.slice none 0 0) (.slice none 0 0) (.slice aU 16 cU) (.slice bU 16 dU)
   obtain ⟨V19, hV19⟩ : ∃ V, V = (w18.alloc (.cells #[.slice none 0 0, .slice none 0 0] 27)).setRow w18.heap.size ([Value.slice aU 16 cU, Value.slice bU 16 dU] : List Value).toArray := ⟨_, rfl⟩
   rw [← hV19] at bV EU
   replace B := B.trans (bV.mono B.size)
   replace kVv := kVv.kept bV
   replace kDv := kDv.kept bV
   replace kOv := kOv.kept bV
   replace kXv := kXv.kept bV
   replace kYv := kYv.kept bV
   replace ik := ik.below bV
   replace EK := EK.kept bV
   replace ES := ES.kept bV
   replace iSS := iSS.below bV
   replace iO := iO.below bV
   replace EO := EO.kept bV
   replace iZ := iZ.below bV
   replace EZ := EZ.kept bV
   replace iY := iY.below bV
   replace EY := EY.kept bV
   replace iJ := iJ.below bV
   replace EJ := EJ.kept bV
   replace iU := iU.below bV
   clear bV
   go_wp2_with (first
     | (refine wpList_store_row rfl 27 _ _ rfl w18.heap.size ([Value.slice aU 16 cU, Value.slice bU 16 dU]).toArray rfl rfl 27 _ A0 infoPt rfl (by simp [Value.oneCell']) ?_; rw [← hV19]; clear hV19 A0)
     | (refine wpList_load_row rfl 27 _ rfl (w14.heap.size) rfl 27 ([Value.slice aY 16 cY, Value.slice bY 16 dY]).toArray (0, 0) _ EY Tryd.underlying27 rfl infoPt ?_)
     | (refine wpList_load_rowW rfl 27 _ rfl (w14.heap.size) rfl 27 ([Value.slice aY 16 cY, Value.slice bY 16 dY]).toArray (0, 0) _ EY Tryd.underlying27 rfl infoPt ?_)
     | (refine wpList_load_row rfl 27 _ rfl (w12.heap.size) rfl 27 ([Value.slice aZ 16 cZ, Value.slice bZ 16 dZ]).toArray (0, 0) _ EZ Tryd.underlying27 rfl infoPt ?_)
     | (refine wpList_load_rowW rfl 27 _ rfl (w12.heap.size) rfl 27 ([Value.slice aZ 16 cZ, Value.slice bZ 16 dZ]).toArray (0, 0) _ EZ Tryd.underlying27 rfl infoPt ?_))
   refine (okPAdd aY cY bY dY _ aZ cZ bZ dZ _ _ iY iZ oY on_base kVv kDv).mono ?_
   rintro e w20 ⟨aW, cW, bW, dW, rfl, iW, hb20⟩
   replace B := B.trans (hb20.mono B.size)
   replace kVv := kVv.kept hb20
   replace kDv := kDv.kept hb20
   replace kOv := kOv.kept hb20
   replace kXv := kXv.kept hb20
   replace kYv := kYv.kept hb20
   replace ik := ik.below hb20
   replace EK := EK.kept hb20
   replace ES := ES.kept hb20
   replace iSS := iSS.below hb20
   replace iO := iO.below hb20
   replace EO := EO.kept hb20
   replace iZ := iZ.below hb20
   replace EZ := EZ.kept hb20
   replace iY := iY.below hb20
   replace EY := EY.kept hb20
   replace iJ := iJ.below hb20
   replace EJ := EJ.kept hb20
   replace iU := iU.below hb20
   replace EU := EU.kept hb20
   clear hb20
   obtain ⟨bV, EW, A0, _⟩ := laid_two w20 27 (.slice none 0 0) (.slice none 0 0) (.slice aW 16 cW) (.slice bW 16 dW)
   obtain ⟨V21, hV21⟩ : ∃ V, V = (w20.alloc (.cells #[.slice none 0 0, .slice none 0 0] 27)).setRow w20.heap.size ([Value.slice aW 16 cW, Value.slice bW 16 dW] : List Value).toArray := ⟨_, rfl⟩
   rw [← hV21] at bV EW
   replace B := B.trans (bV.mono B.size)
   replace kVv := kVv.kept bV
   replace kDv := kDv.kept bV
   replace kOv := kOv.kept bV
   replace kXv := kXv.kept bV
   replace kYv := kYv.kept bV
   replace ik := ik.below bV
   replace EK := EK.kept bV
   replace ES := ES.kept bV
   replace iSS := iSS.below bV
   replace iO := iO.below bV
   replace EO := EO.kept bV
   replace iZ := iZ.below bV
   replace EZ := EZ.kept bV
   replace iY := iY.below bV
   replace EY := EY.kept bV
   replace iJ := iJ.below bV
   replace EJ := EJ.kept bV
   replace iU := iU.below bV
   replace EU := EU.kept bV
   replace iW := iW.below bV
   clear bV
   go_wp2_with (first
     | (refine wpList_store_row rfl 27 _ _ rfl w20.heap.size ([Value.slice aW 16 cW, Value.slice bW 16 dW]).toArray rfl rfl 27 _ A0 infoPt rfl (by simp [Value.oneCell']) ?_; rw [← hV21]; clear hV21 A0)
     | (refine wpList_load_row rfl 27 _ rfl (w2.heap.size) rfl 27 ([Value.slice aS 16 cS, Value.slice bS 16 dS]).toArray (0, 0) _ ES Tryd.underlying27 rfl infoPt ?_)
     | (refine wpList_load_rowW rfl 27 _ rfl (w2.heap.size) rfl 27 ([Value.slice aS 16 cS, Value.slice bS 16 dS]).toArray (0, 0) _ ES Tryd.underlying27 rfl infoPt ?_))
   refine (okPOk aS cS bS dS _ _ iSS oS kVv kDv).mono ?_
   rintro e w22 ⟨rfl, hb22⟩
   replace B := B.trans (hb22.mono B.size)
   replace kVv := kVv.kept hb22
   replace kDv := kDv.kept hb22
   replace kOv := kOv.kept hb22
   replace kXv := kXv.kept hb22
   replace kYv := kYv.kept hb22
   replace ik := ik.below hb22
   replace EK := EK.kept hb22
   replace ES := ES.kept hb22
   replace iSS := iSS.below hb22
   replace iO := iO.below hb22
   replace EO := EO.kept hb22
   replace iZ := iZ.below hb22
   replace EZ := EZ.kept hb22
   replace iY := iY.below hb22
   replace EY := EY.kept hb22
   replace iJ := iJ.below hb22
   replace EJ := EJ.kept hb22
   replace iU := iU.below hb22
   replace EU := EU.kept hb22
   replace iW := iW.below hb22
   replace EW := EW.kept hb22
   clear hb22
   go_wp2_with (first
     | (refine wpList_load_row rfl 27 _ rfl (w18.heap.size) rfl 27 ([Value.slice aU 16 cU, Value.slice bU 16 dU]).toArray (0, 0) _ EU Tryd.underlying27 rfl infoPt ?_)
     | (refine wpList_load_rowW rfl 27 _ rfl (w18.heap.size) rfl 27 ([Value.slice aU 16 cU, Value.slice bU 16 dU]).toArray (0, 0) _ EU Tryd.underlying27 rfl infoPt ?_)
     | (refine wpList_load_row rfl 27 _ rfl (w20.heap.size) rfl 27 ([Value.slice aW 16 cW, Value.slice bW 16 dW]).toArray (0, 0) _ EW Tryd.underlying27 rfl infoPt ?_)
     | (refine wpList_load_rowW rfl 27 _ rfl (w20.heap.size) rfl 27 ([Value.slice aW 16 cW, Value.slice bW 16 dW]).toArray (0, 0) _ EW Tryd.underlying27 rfl infoPt ?_))
   refine (okSame aU cU bU dU aW cW bW dW _ _ _ iU iW HE.out).mono ?_
   rintro e w23 ⟨rfl, hb23⟩
   replace B := B.trans (hb23.mono B.size)
   replace kVv := kVv.kept hb23
   replace kDv := kDv.kept hb23
   replace kOv := kOv.kept hb23
   replace kXv := kXv.kept hb23
   replace kYv := kYv.kept hb23
   replace ik := ik.below hb23
   replace EK := EK.kept hb23
   replace ES := ES.kept hb23
   replace iSS := iSS.below hb23
   replace iO := iO.below hb23
   replace EO := EO.kept hb23
   replace iZ := iZ.below hb23
   replace EZ := EZ.kept hb23
   replace iY := iY.below hb23
   replace EY := EY.kept hb23
   replace iJ := iJ.below hb23
   replace EJ := EJ.kept hb23
   replace iU := iU.below hb23
   replace EU := EU.kept hb23
   replace iW := iW.below hb23
   replace EW := EW.kept hb23
   clear hb23
   go_wp2_with fail
   go_ret
   exact ⟨rfl, B⟩
end Go.Proofs.YtoblilngppjmhaaDoor

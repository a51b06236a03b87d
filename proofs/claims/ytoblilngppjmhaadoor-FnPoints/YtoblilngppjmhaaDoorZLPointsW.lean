/-
  What is proved here: the law FnPoints returns true at every code, and writes into nothing that was there; where the program's variables hold the prime and d.
-/
import Derived.Test.YtoblilngppjmhaaDoorZOm1
import Derived.Test.YtoblilngppjmhaaDoorZJa
namespace Go.Proofs.YtoblilngppjmhaaDoor
open Go.RowKit
set_option maxRecDepth 100000

set_option maxHeartbeats 16000000 in
theorem walk_fnPoints (w : World) (ab : Option Addr) (nb cb : Nat) (bs : List Int) (hB : Bs w ab nb cb bs) (hre : nb ≤ 140737488351232) (kVv : Vr w 4 (I64 PL)) (kDv : Vr w 2 (I64 DL)) :
  Calls Tryd.prog 3 #[.slice ab nb cb] w fun e w' => e = .returned (.bool true) ∧ Below w.heap.size w w' := by
 haveI := nzP
 have B : Below w.heap.size w w := Below.refl _ _
 go_enter Tryd.func3, Tryd.ntmps3
 go_wp2_with fail
 refine (drawPtAdd ab nb cb bs _ (hB.below B) (by omega)).mono ?_
 rintro e w1 ⟨vA, l1, l2, vB, m1, m2, rfl, ⟨a1, n1, c1, b1, j1, d1, rfl, x1, y1, _, _, nm1, nk1⟩, ⟨a2, n2, c2, b2, j2, d2, rfl, x2, y2, _, _, nm2, nk2⟩, hb1⟩
 replace B := B.trans (hb1.mono B.size)
 replace kVv := kVv.kept hb1
 replace kDv := kDv.kept hb1
 clear hb1
 obtain ⟨bV, E1, E2, A0, A1⟩ := laid_two2 w1 27 (.slice none 0 0) (.slice none 0 0) (.slice a1 n1 c1) (.slice b1 j1 d1) (.slice a2 n2 c2) (.slice b2 j2 d2)
 obtain ⟨V2, hV2⟩ : ∃ V, V = (((w1.alloc (.cells #[.slice none 0 0, .slice none 0 0] 27)).alloc (.cells #[.slice none 0 0, .slice none 0 0] 27)).setRow w1.heap.size ([Value.slice a1 n1 c1, Value.slice b1 j1 d1] : List Value).toArray).setRow (w1.heap.size + 1) ([Value.slice a2 n2 c2, Value.slice b2 j2 d2] : List Value).toArray := ⟨_, rfl⟩
 rw [← hV2] at bV E1 E2
 replace B := B.trans (bV.mono B.size)
 replace kVv := kVv.kept bV
 replace kDv := kDv.kept bV
 replace x1 := x1.below bV
 replace y1 := y1.below bV
 replace x2 := x2.below bV
 replace y2 := y2.below bV
 clear bV
 go_wp2_with (first
   | (refine wpList_store_row rfl 27 _ _ rfl w1.heap.size ([Value.slice a1 n1 c1, Value.slice b1 j1 d1]).toArray rfl rfl 27 _ A0 infoPt rfl (by simp [Value.oneCell']) ?_)
   | (refine wpList_store_row rfl 27 _ _ rfl (w1.heap.size + 1) ([Value.slice a2 n2 c2, Value.slice b2 j2 d2]).toArray rfl rfl 27 _ A1 infoPt rfl (by simp [Value.oneCell']) ?_; rw [← hV2]; clear hV2 A0 A1)
   | (refine wpList_load_row rfl 27 _ rfl (w1.heap.size) rfl 27 ([Value.slice a1 n1 c1, Value.slice b1 j1 d1]).toArray (0, 0) _ E1 Tryd.underlying27 rfl infoPt ?_)
   | (refine wpList_load_rowW rfl 27 _ rfl (w1.heap.size) rfl 27 ([Value.slice a1 n1 c1, Value.slice b1 j1 d1]).toArray (0, 0) _ E1 Tryd.underlying27 rfl infoPt ?_)
   | (refine wpList_load_row rfl 27 _ rfl (w1.heap.size + 1) rfl 27 ([Value.slice a2 n2 c2, Value.slice b2 j2 d2]).toArray (0, 0) _ E2 Tryd.underlying27 rfl infoPt ?_)
   | (refine wpList_load_rowW rfl 27 _ rfl (w1.heap.size + 1) rfl 27 ([Value.slice a2 n2 c2, Value.slice b2 j2 d2]).toArray (0, 0) _ E2 Tryd.underlying27 rfl infoPt ?_))
 refine (implPtAdd a1 n1 c1 l1 b1 j1 d1 l2 a2 n2 c2 m1 b2 j2 d2 m2 _ x1 y1 x2 y2 kVv kDv).mono ?_
 rintro e w3 ⟨vS, rfl, ⟨aS, cS, bS, dS, rfl, oS, uS, _⟩, hb3⟩
 replace B := B.trans (hb3.mono B.size)
 replace kVv := kVv.kept hb3
 replace kDv := kDv.kept hb3
 replace x1 := x1.below hb3
 replace y1 := y1.below hb3
 replace x2 := x2.below hb3
 replace y2 := y2.below hb3
 replace E1 := E1.kept hb3
 replace E2 := E2.kept hb3
 clear hb3
 have iS := is_of_own oS (ptx_int _ _)
 have kS := is_of_own uS (pty_int _ _)
 clear oS uS
 obtain ⟨p, hp⟩ : ∃ p, p = ptOk l1 l2 := ⟨_, rfl⟩
 obtain ⟨q, hq⟩ : ∃ q, q = ptOk m1 m2 := ⟨_, rfl⟩
 rw [← hp, ← hq] at iS kS ⊢
 obtain ⟨SX, hSX⟩ : ∃ l, l = ptx (p && q) (add6 (mk6 l1 l2) (mk6 m1 m2)) := ⟨_, rfl⟩
 obtain ⟨SY, hSY⟩ : ∃ l, l = pty (p && q) (add6 (mk6 l1 l2) (mk6 m1 m2)) := ⟨_, rfl⟩
 rw [← hSX] at iS ⊢
 rw [← hSY] at kS ⊢
 obtain ⟨nS, hnS⟩ : ∃ n, n = SX.length := ⟨_, rfl⟩
 obtain ⟨jS, hjS⟩ : ∃ n, n = SY.length := ⟨_, rfl⟩
 rw [← hnS] at iS ⊢
 rw [← hjS] at kS ⊢
 have HN : Hid ((p && q) = false → nS = 0) := by unfold Hid; intro h; rw [hnS, hSX, h]; rfl
 have HY : Hid (p = true → q = true → (SX = cx (pAdd dK ivK (pt l1 l2) (pt m1 m2)).1 ∧ SY = cx (pAdd dK ivK (pt l1 l2) (pt m1 m2)).2) ∧ nS = 16 ∧ jS = 16) := by
  unfold Hid; intro h k; have h' := h; have k' := k; rw [hp] at h; rw [hq] at k; obtain ⟨q1, q2⟩ := pt_add h k
  have f1 : SX = cx (pAdd dK ivK (pt l1 l2) (pt m1 m2)).1 := by rw [hSX, h', k']; exact q1
  have f2 : SY = cx (pAdd dK ivK (pt l1 l2) (pt m1 m2)).2 := by rw [hSY, h', k']; exact q2
  exact ⟨⟨f1, f2⟩, by rw [hnS, f1, cx_len], by rw [hjS, f2, cx_len]⟩
 have HP : Hid (p = ptOk l1 l2) := hp
 have HQ : Hid (q = ptOk m1 m2) := hq
 clear hp hq hSX hSY hnS hjS
 obtain ⟨bV, ES, A0, _⟩ := laid_two w3 27 (.slice none 0 0) (.slice none 0 0) (.slice aS nS cS) (.slice bS jS dS)
 obtain ⟨V4, hV4⟩ : ∃ V, V = (w3.alloc (.cells #[.slice none 0 0, .slice none 0 0] 27)).setRow w3.heap.size ([Value.slice aS nS cS, Value.slice bS jS dS] : List Value).toArray := ⟨_, rfl⟩
 rw [← hV4] at bV ES
 replace B := B.trans (bV.mono B.size)
 replace kVv := kVv.kept bV
 replace kDv := kDv.kept bV
 replace x1 := x1.below bV
 replace y1 := y1.below bV
 replace x2 := x2.below bV
 replace y2 := y2.below bV
 replace E1 := E1.kept bV
 replace E2 := E2.kept bV
 replace iS := iS.below bV
 replace kS := kS.below bV
 clear bV
 go_wp2_with (refine wpList_store_row rfl 27 _ _ rfl w3.heap.size ([Value.slice aS nS cS, Value.slice bS jS dS]).toArray rfl rfl 27 _ A0 infoPt rfl (by simp [Value.oneCell']) ?_; rw [← hV4]; clear hV4 A0)
 refine (okPZero _).mono ?_
 rintro e w5 ⟨aZ, cZ, bZ, dZ, rfl, iZ, hb5⟩
 replace B := B.trans (hb5.mono B.size)
 replace kVv := kVv.kept hb5
 replace kDv := kDv.kept hb5
 replace x1 := x1.below hb5
 replace y1 := y1.below hb5
 replace x2 := x2.below hb5
 replace y2 := y2.below hb5
 replace E1 := E1.kept hb5
 replace E2 := E2.kept hb5
 replace iS := iS.below hb5
 replace kS := kS.below hb5
 replace ES := ES.kept hb5
 clear hb5
 obtain ⟨bV, EZ, A0, _⟩ := laid_two w5 27 (.slice none 0 0) (.slice none 0 0) (.slice aZ 16 cZ) (.slice bZ 16 dZ)
 obtain ⟨V6, hV6⟩ : ∃ V, V = (w5.alloc (.cells #[.slice none 0 0, .slice none 0 0] 27)).setRow w5.heap.size ([Value.slice aZ 16 cZ, Value.slice bZ 16 dZ] : List Value).toArray := ⟨_, rfl⟩
 rw [← hV6] at bV EZ
 replace B := B.trans (bV.mono B.size)
 replace kVv := kVv.kept bV
 replace kDv := kDv.kept bV
 replace x1 := x1.below bV
 replace y1 := y1.below bV
 replace x2 := x2.below bV
 replace y2 := y2.below bV
 replace E1 := E1.kept bV
 replace E2 := E2.kept bV
 replace iS := iS.below bV
 replace kS := kS.below bV
 replace ES := ES.kept bV
 replace iZ := iZ.below bV
 clear bV
 go_wp2_with (first
   | (refine wpList_store_row rfl 27 _ _ rfl w5.heap.size ([Value.slice aZ 16 cZ, Value.slice bZ 16 dZ]).toArray rfl rfl 27 _ A0 infoPt rfl (by simp [Value.oneCell']) ?_; rw [← hV6]; clear hV6 A0)
   | (refine wpList_load_row rfl 27 _ rfl (w1.heap.size) rfl 27 ([Value.slice a1 n1 c1, Value.slice b1 j1 d1]).toArray (0, 0) _ E1 Tryd.underlying27 rfl infoPt ?_)
   | (refine wpList_load_rowW rfl 27 _ rfl (w1.heap.size) rfl 27 ([Value.slice a1 n1 c1, Value.slice b1 j1 d1]).toArray (0, 0) _ E1 Tryd.underlying27 rfl infoPt ?_))
 refine (specPtOk a1 n1 c1 l1 b1 j1 d1 l2 _ x1 y1).mono ?_
 rintro e w7 ⟨rfl, hb7⟩
 replace B := B.trans (hb7.mono B.size)
 replace kVv := kVv.kept hb7
 replace kDv := kDv.kept hb7
 replace x1 := x1.below hb7
 replace y1 := y1.below hb7
 replace x2 := x2.below hb7
 replace y2 := y2.below hb7
 replace E1 := E1.kept hb7
 replace E2 := E2.kept hb7
 replace iS := iS.below hb7
 replace kS := kS.below hb7
 replace ES := ES.kept hb7
 replace iZ := iZ.below hb7
 replace EZ := EZ.kept hb7
 clear hb7
 rw [← HP.out]
 cases p with
 | false =>
  have hn0 := HN.out (by simp)
  subst hn0
  have cES0 : w7.cell? ⟨w3.heap.size, 0, none⟩ = some (Value.slice aS 0 cS) := ES.cell 0
  have cES1 : w7.cell? ⟨w3.heap.size, 1, none⟩ = some (Value.slice bS jS dS) := ES.cell 1
  go_wp2_with (first
    | (refine wpList_load_row rfl 27 _ rfl (w5.heap.size) rfl 27 ([Value.slice aZ 16 cZ, Value.slice bZ 16 dZ]).toArray (0, 0) _ EZ Tryd.underlying27 rfl infoPt ?_)
    | (refine wpList_load_rowW rfl 27 _ rfl (w5.heap.size) rfl 27 ([Value.slice aZ 16 cZ, Value.slice bZ 16 dZ]).toArray (0, 0) _ EZ Tryd.underlying27 rfl infoPt ?_))
  clear cES0 cES1
  refine (okPOk aZ cZ bZ dZ _ _ iZ on_zero kVv kDv).mono ?_
  rintro e w8 ⟨rfl, hb8⟩
  replace B := B.trans (hb8.mono B.size)
  replace kVv := kVv.kept hb8
  replace kDv := kDv.kept hb8
  replace x1 := x1.below hb8
  replace y1 := y1.below hb8
  replace x2 := x2.below hb8
  replace y2 := y2.below hb8
  replace E1 := E1.kept hb8
  replace E2 := E2.kept hb8
  replace iS := iS.below hb8
  replace kS := kS.below hb8
  replace ES := ES.kept hb8
  replace iZ := iZ.below hb8
  replace EZ := EZ.kept hb8
  clear hb8
  go_wp2_with fail
  go_ret
  exact ⟨rfl, B⟩
 | true =>
  go_wp2_with (first
    | (refine wpList_load_row rfl 27 _ rfl (w1.heap.size + 1) rfl 27 ([Value.slice a2 n2 c2, Value.slice b2 j2 d2]).toArray (0, 0) _ E2 Tryd.underlying27 rfl infoPt ?_)
    | (refine wpList_load_rowW rfl 27 _ rfl (w1.heap.size + 1) rfl 27 ([Value.slice a2 n2 c2, Value.slice b2 j2 d2]).toArray (0, 0) _ E2 Tryd.underlying27 rfl infoPt ?_))
  refine (specPtOk a2 n2 c2 m1 b2 j2 d2 m2 _ x2 y2).mono ?_
  rintro e w9 ⟨rfl, hb9⟩
  replace B := B.trans (hb9.mono B.size)
  replace kVv := kVv.kept hb9
  replace kDv := kDv.kept hb9
  replace x1 := x1.below hb9
  replace y1 := y1.below hb9
  replace x2 := x2.below hb9
  replace y2 := y2.below hb9
  replace E1 := E1.kept hb9
  replace E2 := E2.kept hb9
  replace iS := iS.below hb9
  replace kS := kS.below hb9
  replace ES := ES.kept hb9
  replace iZ := iZ.below hb9
  replace EZ := EZ.kept hb9
  clear hb9
  rw [← HQ.out]
  cases q with
  | false =>
   have hn0 := HN.out (by simp)
   subst hn0
   have cES0 : w9.cell? ⟨w3.heap.size, 0, none⟩ = some (Value.slice aS 0 cS) := ES.cell 0
   have cES1 : w9.cell? ⟨w3.heap.size, 1, none⟩ = some (Value.slice bS jS dS) := ES.cell 1
   go_wp2_with (first
     | (refine wpList_load_row rfl 27 _ rfl (w5.heap.size) rfl 27 ([Value.slice aZ 16 cZ, Value.slice bZ 16 dZ]).toArray (0, 0) _ EZ Tryd.underlying27 rfl infoPt ?_)
     | (refine wpList_load_rowW rfl 27 _ rfl (w5.heap.size) rfl 27 ([Value.slice aZ 16 cZ, Value.slice bZ 16 dZ]).toArray (0, 0) _ EZ Tryd.underlying27 rfl infoPt ?_))
   clear cES0 cES1
   refine (okPOk aZ cZ bZ dZ _ _ iZ on_zero kVv kDv).mono ?_
   rintro e w10 ⟨rfl, hb10⟩
   replace B := B.trans (hb10.mono B.size)
   replace kVv := kVv.kept hb10
   replace kDv := kDv.kept hb10
   replace x1 := x1.below hb10
   replace y1 := y1.below hb10
   replace x2 := x2.below hb10
   replace y2 := y2.below hb10
   replace E1 := E1.kept hb10
   replace E2 := E2.kept hb10
   replace iS := iS.below hb10
   replace kS := kS.below hb10
   replace ES := ES.kept hb10
   replace iZ := iZ.below hb10
   replace EZ := EZ.kept hb10
   clear hb10
   go_wp2_with fail
   go_ret
   exact ⟨rfl, B⟩
  | true =>
   have hA := HP.out.symm
   have hC := HQ.out.symm
   obtain ⟨⟨e1, e2⟩, hn, hj⟩ := HY.out (by simp) (by simp)
   subst hn hj
   have oA := pt_on hA
   have oC := pt_on hC
   obtain ⟨f1, f2⟩ := pt_cx hA
   obtain ⟨f3, f4⟩ := pt_cx hC
   obtain ⟨P, hP⟩ : ∃ P, P = pt l1 l2 := ⟨_, rfl⟩
   obtain ⟨Q, hQ⟩ : ∃ Q, Q = pt m1 m2 := ⟨_, rfl⟩
   rw [← hP] at oA f1 f2 e1 e2
   rw [← hQ] at oC f3 f4 e1 e2
   have g1 : n1 = 16 := by rw [← x1.2.1, ← f1]; exact cx_len _
   have g2 : j1 = 16 := by rw [← y1.2.1, ← f2]; exact cx_len _
   have g3 : n2 = 16 := by rw [← x2.2.1, ← f3]; exact cx_len _
   have g4 : j2 = 16 := by rw [← y2.2.1, ← f4]; exact cx_len _
   subst g1 g2 g3 g4
   rw [← f1] at x1
   rw [← f2] at y1
   rw [← f3] at x2
   rw [← f4] at y2
   rw [e1] at iS
   rw [e2] at kS
   have i1 : PI w9 a1 c1 b1 d1 P := ⟨x1, y1⟩
   have i2 : PI w9 a2 c2 b2 d2 Q := ⟨x2, y2⟩
   have iSS : PI w9 aS cS bS dS (pAdd dK ivK P Q) := ⟨iS, kS⟩
   have HE : Hid (pAdd dK ivK P Q = pAdd dK ivK Q P ∧ pAdd dK ivK P (pNeg P) = pZero ∧ pAdd dK ivK P pZero = P ∧ pAdd dK ivK (pAdd dK ivK P Q) Q = pAdd dK ivK P (pAdd dK ivK Q Q)) := ⟨pAdd_comm _ _, crvK.add_neg oA, crvK.add_zero P, crvK.assoc oA oC oC⟩
   have oS := crvK.on_add oA oC
   have oN := on_neg oA
   have oD := crvK.on_add oC oC
   clear x1
   clear y1
   clear x2
   clear y2
   clear iS
   clear kS
   clear hA hC e1 e2 f1 f2 f3 f4 hP hQ HP HQ HN HY
   go_wp2_with (first
     | (refine wpList_load_row rfl 27 _ rfl (w1.heap.size + 1) rfl 27 ([Value.slice a2 16 c2, Value.slice b2 16 d2]).toArray (0, 0) _ E2 Tryd.underlying27 rfl infoPt ?_)
     | (refine wpList_load_rowW rfl 27 _ rfl (w1.heap.size + 1) rfl 27 ([Value.slice a2 16 c2, Value.slice b2 16 d2]).toArray (0, 0) _ E2 Tryd.underlying27 rfl infoPt ?_)
     | (refine wpList_load_row rfl 27 _ rfl (w1.heap.size) rfl 27 ([Value.slice a1 16 c1, Value.slice b1 16 d1]).toArray (0, 0) _ E1 Tryd.underlying27 rfl infoPt ?_)
     | (refine wpList_load_rowW rfl 27 _ rfl (w1.heap.size) rfl 27 ([Value.slice a1 16 c1, Value.slice b1 16 d1]).toArray (0, 0) _ E1 Tryd.underlying27 rfl infoPt ?_))
   refine (okPAdd a2 c2 b2 d2 _ a1 c1 b1 d1 _ _ i2 i1 oC oA kVv kDv).mono ?_
   rintro e w11 ⟨aT, cT, bT, dT, rfl, iT, hb11⟩
   replace B := B.trans (hb11.mono B.size)
   replace kVv := kVv.kept hb11
   replace kDv := kDv.kept hb11
   replace E1 := E1.kept hb11
   replace E2 := E2.kept hb11
   replace ES := ES.kept hb11
   replace iZ := iZ.below hb11
   replace EZ := EZ.kept hb11
   replace i1 := i1.below hb11
   replace i2 := i2.below hb11
   replace iSS := iSS.below hb11
   clear hb11
   obtain ⟨bV, ET, A0, _⟩ := laid_two w11 27 (.slice none 0 0) (.slice none 0 0) (.slice aT 16 cT) (.slice bT 16 dT)
   obtain ⟨V12, hV12⟩ : ∃ V, V = (w11.alloc (.cells #[.slice none 0 0, .slice none 0 0] 27)).setRow w11.heap.size ([Value.slice aT 16 cT, Value.slice bT 16 dT] : List Value).toArray := ⟨_, rfl⟩
   rw [← hV12] at bV ET
   replace B := B.trans (bV.mono B.size)
   replace kVv := kVv.kept bV
   replace kDv := kDv.kept bV
   replace E1 := E1.kept bV
   replace E2 := E2.kept bV
   replace ES := ES.kept bV
   replace iZ := iZ.below bV
   replace EZ := EZ.kept bV
   replace i1 := i1.below bV
   replace i2 := i2.below bV
   replace iSS := iSS.below bV
   replace iT := iT.below bV
   clear bV
   go_wp2_with (first
     | (refine wpList_store_row rfl 27 _ _ rfl w11.heap.size ([Value.slice aT 16 cT, Value.slice bT 16 dT]).toArray rfl rfl 27 _ A0 infoPt rfl (by simp [Value.oneCell']) ?_; rw [← hV12]; clear hV12 A0)
     | (refine wpList_load_row rfl 27 _ rfl (w1.heap.size) rfl 27 ([Value.slice a1 16 c1, Value.slice b1 16 d1]).toArray (0, 0) _ E1 Tryd.underlying27 rfl infoPt ?_)
     | (refine wpList_load_rowW rfl 27 _ rfl (w1.heap.size) rfl 27 ([Value.slice a1 16 c1, Value.slice b1 16 d1]).toArray (0, 0) _ E1 Tryd.underlying27 rfl infoPt ?_))
   refine (okPNeg a1 c1 b1 d1 _ _ i1 oA kVv kDv).mono ?_
   rintro e w13 ⟨aN, cN, bN, dN, rfl, iN, hb13⟩
   replace B := B.trans (hb13.mono B.size)
   replace kVv := kVv.kept hb13
   replace kDv := kDv.kept hb13
   replace E1 := E1.kept hb13
   replace E2 := E2.kept hb13
   replace ES := ES.kept hb13
   replace iZ := iZ.below hb13
   replace EZ := EZ.kept hb13
   replace i1 := i1.below hb13
   replace i2 := i2.below hb13
   replace iSS := iSS.below hb13
   replace iT := iT.below hb13
   replace ET := ET.kept hb13
   clear hb13
   obtain ⟨bV, EN, A0, _⟩ := laid_two w13 27 (.slice none 0 0) (.slice none 0 0) (.slice aN 16 cN) (.slice bN 16 dN)
   obtain ⟨V14, hV14⟩ : ∃ V, V = (w13.alloc (.cells #[.slice none 0 0, .slice none 0 0] 27)).setRow w13.heap.size ([Value.slice aN 16 cN, Value.slice bN 16 dN] : List Value).toArray := ⟨_, rfl⟩
   rw [← hV14] at bV EN
   replace B := B.trans (bV.mono B.size)
   replace kVv := kVv.kept bV
   replace kDv := kDv.kept bV
   replace E1 := E1.kept bV
   replace E2 := E2.kept bV
   replace ES := ES.kept bV
   replace iZ := iZ.below bV
   replace EZ := EZ.kept bV
   replace i1 := i1.below bV
   replace i2 := i2.below bV
   replace iSS := iSS.below bV
   replace iT := iT.below bV
   replace ET := ET.kept bV
   replace iN := iN.below bV
   clear bV
   go_wp2_with (first
     | (refine wpList_store_row rfl 27 _ _ rfl w13.heap.size ([Value.slice aN 16 cN, Value.slice bN 16 dN]).toArray rfl rfl 27 _ A0 infoPt rfl (by simp [Value.oneCell']) ?_; rw [← hV14]; clear hV14 A0)
     | (refine wpList_load_row rfl 27 _ rfl (w1.heap.size) rfl 27 ([Value.slice a1 16 c1, Value.slice b1 16 d1]).toArray (0, 0) _ E1 Tryd.underlying27 rfl infoPt ?_)
     | (refine wpList_load_rowW rfl 27 _ rfl (w1.heap.size) rfl 27 ([Value.slice a1 16 c1, Value.slice b1 16 d1]).toArray (0, 0) _ E1 Tryd.underlying27 rfl infoPt ?_)
     | (refine wpList_load_row rfl 27 _ rfl (w13.heap.size) rfl 27 ([Value.slice aN 16 cN, Value.slice bN 16 dN]).toArray (0, 0) _ EN Tryd.underlying27 rfl infoPt ?_)
     | (refine wpList_load_rowW rfl 27 _ rfl (w13.heap.size) rfl 27 ([Value.slice aN 16 cN, Value.slice bN 16 dN]).toArray (0, 0) _ EN Tryd.underlying27 rfl infoPt ?_))
   refine (okPAdd a1 c1 b1 d1 _ aN cN bN dN _ _ i1 iN oA oN kVv kDv).mono ?_
   rintro e w15 ⟨aO, cO, bO, dO, rfl, iO, hb15⟩
   replace B := B.trans (hb15.mono B.size)
   replace kVv := kVv.kept hb15
   replace kDv := kDv.kept hb15
   replace E1 := E1.kept hb15
   replace E2 := E2.kept hb15
   replace ES := ES.kept hb15
   replace iZ := iZ.below hb15
   replace EZ := EZ.kept hb15
   replace i1 := i1.below hb15
   replace i2 := i2.below hb15
   replace iSS := iSS.below hb15
   replace iT := iT.below hb15
   replace ET := ET.kept hb15
   replace iN := iN.below hb15
   replace EN := EN.kept hb15
   clear hb15
   obtain ⟨bV, EO, A0, _⟩ := laid_two w15 27 (.slice none 0 0) (.slice none 0 0) (.slice aO 16 cO) (.slice bO 16 dO)
   obtain ⟨V16, hV16⟩ : ∃ V, V = (w15.alloc (.cells #[.slice none 0 0, .slice none 0 0] 27)).setRow w15.heap.size ([Value.slice aO 16 cO, Value.slice bO 16 dO] : List Value).toArray := ⟨_, rfl⟩
   rw [← hV16] at bV EO
   replace B := B.trans (bV.mono B.size)
   replace kVv := kVv.kept bV
   replace kDv := kDv.kept bV
   replace E1 := E1.kept bV
   replace E2 := E2.kept bV
   replace ES := ES.kept bV
   replace iZ := iZ.below bV
   replace EZ := EZ.kept bV
   replace i1 := i1.below bV
   replace i2 := i2.below bV
   replace iSS := iSS.below bV
   replace iT := iT.below bV
   replace ET := ET.kept bV
   replace iN := iN.below bV
   replace EN := EN.kept bV
   replace iO := iO.below bV
   clear bV
   clear EN
   clear iN
   go_wp2_with (first
     | (refine wpList_store_row rfl 27 _ _ rfl w15.heap.size ([Value.slice aO 16 cO, Value.slice bO 16 dO]).toArray rfl rfl 27 _ A0 infoPt rfl (by simp [Value.oneCell']) ?_; rw [← hV16]; clear hV16 A0)
     | (refine wpList_load_row rfl 27 _ rfl (w1.heap.size) rfl 27 ([Value.slice a1 16 c1, Value.slice b1 16 d1]).toArray (0, 0) _ E1 Tryd.underlying27 rfl infoPt ?_)
     | (refine wpList_load_rowW rfl 27 _ rfl (w1.heap.size) rfl 27 ([Value.slice a1 16 c1, Value.slice b1 16 d1]).toArray (0, 0) _ E1 Tryd.underlying27 rfl infoPt ?_)
     | (refine wpList_load_row rfl 27 _ rfl (w5.heap.size) rfl 27 ([Value.slice aZ 16 cZ, Value.slice bZ 16 dZ]).toArray (0, 0) _ EZ Tryd.underlying27 rfl infoPt ?_)
     | (refine wpList_load_rowW rfl 27 _ rfl (w5.heap.size) rfl 27 ([Value.slice aZ 16 cZ, Value.slice bZ 16 dZ]).toArray (0, 0) _ EZ Tryd.underlying27 rfl infoPt ?_))
   refine (okPAdd a1 c1 b1 d1 _ aZ cZ bZ dZ _ _ i1 iZ oA on_zero kVv kDv).mono ?_
   rintro e w17 ⟨aI, cI, bI, dI, rfl, iI, hb17⟩
   replace B := B.trans (hb17.mono B.size)
   replace kVv := kVv.kept hb17
   replace kDv := kDv.kept hb17
   replace E1 := E1.kept hb17
   replace E2 := E2.kept hb17
   replace ES := ES.kept hb17
   replace iZ := iZ.below hb17
   replace EZ := EZ.kept hb17
   replace i1 := i1.below hb17
   replace i2 := i2.below hb17
   replace iSS := iSS.below hb17
   replace iT := iT.below hb17
   replace ET := ET.kept hb17
   replace iO := iO.below hb17
   replace EO := EO.kept hb17
   clear hb17
   obtain ⟨bV, EI, A0, _⟩ := laid_two w17 27 (.slice none 0 0) (.slice none 0 0) (.slice aI 16 cI) (.slice bI 16 dI)
   obtain ⟨V18, hV18⟩ : ∃ V, V = (w17.alloc (.cells #[.slice none 0 0, .slice none 0 0] 27)).setRow w17.heap.size ([Value.slice aI 16 cI, Value.slice bI 16 dI] : List Value).toArray := ⟨_, rfl⟩
   rw [← hV18] at bV EI
   replace B := B.trans (bV.mono B.size)
   replace kVv := kVv.kept bV
   replace kDv := kDv.kept bV
   replace E1 := E1.kept bV
   replace E2 := E2.kept bV
   replace ES := ES.kept bV
   replace iZ := iZ.below bV
   replace EZ := EZ.kept bV
   replace i1 := i1.below bV
   replace i2 := i2.below bV
   replace iSS := iSS.below bV
   replace iT := iT.below bV
   replace ET := ET.kept bV
   replace iO := iO.below bV
   replace EO := EO.kept bV
   replace iI := iI.below bV
   clear bV
   go_wp2_with (first
     | (refine wpList_store_row rfl 27 _ _ rfl w17.heap.size ([Value.slice aI 16 cI, Value.slice bI 16 dI]).toArray rfl rfl 27 _ A0 infoPt rfl (by simp [Value.oneCell']) ?_; rw [← hV18]; clear hV18 A0)
     | (refine wpList_load_row rfl 27 _ rfl (w1.heap.size) rfl 27 ([Value.slice a1 16 c1, Value.slice b1 16 d1]).toArray (0, 0) _ E1 Tryd.underlying27 rfl infoPt ?_)
     | (refine wpList_load_rowW rfl 27 _ rfl (w1.heap.size) rfl 27 ([Value.slice a1 16 c1, Value.slice b1 16 d1]).toArray (0, 0) _ E1 Tryd.underlying27 rfl infoPt ?_))
   refine (okPTwice a1 c1 b1 d1 _ _ i1 oA kVv kDv).mono ?_
   rintro e w19 ⟨aW, cW, bW, dW, rfl, iW, hb19⟩
   replace B := B.trans (hb19.mono B.size)
   replace kVv := kVv.kept hb19
   replace kDv := kDv.kept hb19
   replace E1 := E1.kept hb19
   replace E2 := E2.kept hb19
   replace ES := ES.kept hb19
   replace iZ := iZ.below hb19
   replace EZ := EZ.kept hb19
   replace i1 := i1.below hb19
   replace i2 := i2.below hb19
   replace iSS := iSS.below hb19
   replace iT := iT.below hb19
   replace ET := ET.kept hb19
   replace iO := iO.below hb19
   replace EO := EO.kept hb19
   replace iI := iI.below hb19
   replace EI := EI.kept hb19
   clear hb19
   obtain ⟨bV, EW, A0, _⟩ := laid_two w19 27 (.slice none 0 0) (.slice none 0 0) (.slice aW 16 cW) (.slice bW 16 dW)
   obtain ⟨V20, hV20⟩ : ∃ V, V = (w19.alloc (.cells #[.slice none 0 0, .slice none 0 0] 27)).setRow w19.heap.size ([Value.slice aW 16 cW, Value.slice bW 16 dW] : List Value).toArray := ⟨_, rfl⟩
   rw [← hV20] at bV EW
   replace B := B.trans (bV.mono B.size)
   replace kVv := kVv.kept bV
   replace kDv := kDv.kept bV
   replace E1 := E1.kept bV
   replace E2 := E2.kept bV
   replace ES := ES.kept bV
   replace iZ := iZ.below bV
   replace EZ := EZ.kept bV
   replace i1 := i1.below bV
   replace i2 := i2.below bV
   replace iSS := iSS.below bV
   replace iT := iT.below bV
   replace ET := ET.kept bV
   replace iO := iO.below bV
   replace EO := EO.kept bV
   replace iI := iI.below bV
   replace EI := EI.kept bV
   replace iW := iW.below bV
   clear bV
   go_wp2_with (first
     | (refine wpList_store_row rfl 27 _ _ rfl w19.heap.size ([Value.slice aW 16 cW, Value.slice bW 16 dW]).toArray rfl rfl 27 _ A0 infoPt rfl (by simp [Value.oneCell']) ?_; rw [← hV20]; clear hV20 A0)
     | (refine wpList_load_row rfl 27 _ rfl (w1.heap.size) rfl 27 ([Value.slice a1 16 c1, Value.slice b1 16 d1]).toArray (0, 0) _ E1 Tryd.underlying27 rfl infoPt ?_)
     | (refine wpList_load_rowW rfl 27 _ rfl (w1.heap.size) rfl 27 ([Value.slice a1 16 c1, Value.slice b1 16 d1]).toArray (0, 0) _ E1 Tryd.underlying27 rfl infoPt ?_))
   refine (okPAdd a1 c1 b1 d1 _ a1 c1 b1 d1 _ _ i1 i1 oA oA kVv kDv).mono ?_
   rintro e w21 ⟨aU, cU, bU, dU, rfl, iU, hb21⟩
   replace B := B.trans (hb21.mono B.size)
   replace kVv := kVv.kept hb21
   replace kDv := kDv.kept hb21
   replace E1 := E1.kept hb21
   replace E2 := E2.kept hb21
   replace ES := ES.kept hb21
   replace iZ := iZ.below hb21
   replace EZ := EZ.kept hb21
   replace i1 := i1.below hb21
   replace i2 := i2.below hb21
   replace iSS := iSS.below hb21
   replace iT := iT.below hb21
   replace ET := ET.kept hb21
   replace iO := iO.below hb21
   replace EO := EO.kept hb21
   replace iI := iI.below hb21
   replace EI := EI.kept hb21
   replace iW := iW.below hb21
   replace EW := EW.kept hb21
   clear hb21
   obtain ⟨bV, EU, A0, _⟩ := laid_two w21 27 (.slice none 0 0) (.slice none 0 0) (.slice aU 16 cU) (.slice bU 16 dU)
   obtain ⟨V22, hV22⟩ : ∃ V, V = (w21.alloc (.cells #[.slice none 0 0, .slice none 0 0] 27)).setRow w21.heap.size ([Value.slice aU 16 cU, Value.slice bU 16 dU] : List Value).toArray := ⟨_, rfl⟩
   rw [← hV22] at bV EU
   replace B := B.trans (bV.mono B.size)
   replace kVv := kVv.kept bV
   replace kDv := kDv.kept bV
   replace E1 := E1.kept bV
   replace E2 := E2.kept bV
   replace ES := ES.kept bV
   replace iZ := iZ.below bV
   replace EZ := EZ.kept bV
   replace i1 := i1.below bV
   replace i2 := i2.below bV
   replace iSS := iSS.below bV
   replace iT := iT.below bV
   replace ET := ET.kept bV
   replace iO := iO.below bV
   replace EO := EO.kept bV
   replace iI := iI.below bV
   replace EI := EI.kept bV
   replace iW := iW.below bV
   replace EW := EW.kept bV
   replace iU := iU.below bV
   clear bV
   go_wp2_with (first
     | (refine wpList_store_row rfl 27 _ _ rfl w21.heap.size ([Value.slice aU 16 cU, Value.slice bU 16 dU]).toArray rfl rfl 27 _ A0 infoPt rfl (by simp [Value.oneCell']) ?_; rw [← hV22]; clear hV22 A0)
     | (refine wpList_load_row rfl 27 _ rfl (w3.heap.size) rfl 27 ([Value.slice aS 16 cS, Value.slice bS 16 dS]).toArray (0, 0) _ ES Tryd.underlying27 rfl infoPt ?_)
     | (refine wpList_load_rowW rfl 27 _ rfl (w3.heap.size) rfl 27 ([Value.slice aS 16 cS, Value.slice bS 16 dS]).toArray (0, 0) _ ES Tryd.underlying27 rfl infoPt ?_)
     | (refine wpList_load_row rfl 27 _ rfl (w1.heap.size + 1) rfl 27 ([Value.slice a2 16 c2, Value.slice b2 16 d2]).toArray (0, 0) _ E2 Tryd.underlying27 rfl infoPt ?_)
     | (refine wpList_load_rowW rfl 27 _ rfl (w1.heap.size + 1) rfl 27 ([Value.slice a2 16 c2, Value.slice b2 16 d2]).toArray (0, 0) _ E2 Tryd.underlying27 rfl infoPt ?_))
   refine (okPAdd aS cS bS dS _ a2 c2 b2 d2 _ _ iSS i2 oS oC kVv kDv).mono ?_
   rintro e w23 ⟨aC, cC, bC, dC, rfl, iC, hb23⟩
   replace B := B.trans (hb23.mono B.size)
   replace kVv := kVv.kept hb23
   replace kDv := kDv.kept hb23
   replace E1 := E1.kept hb23
   replace E2 := E2.kept hb23
   replace ES := ES.kept hb23
   replace iZ := iZ.below hb23
   replace EZ := EZ.kept hb23
   replace i1 := i1.below hb23
   replace i2 := i2.below hb23
   replace iSS := iSS.below hb23
   replace iT := iT.below hb23
   replace ET := ET.kept hb23
   replace iO := iO.below hb23
   replace EO := EO.kept hb23
   replace iI := iI.below hb23
   replace EI := EI.kept hb23
   replace iW := iW.below hb23
   replace EW := EW.kept hb23
   replace iU := iU.below hb23
   replace EU := EU.kept hb23
   clear hb23
   obtain ⟨bV, EC, A0, _⟩ := laid_two w23 27 (.slice none 0 0) (.slice none 0 0) (.slice aC 16 cC) (.slice bC 16 dC)
   obtain ⟨V24, hV24⟩ : ∃ V, V = (w23.alloc (.cells #[.slice none 0 0, .slice none 0 0] 27)).setRow w23.heap.size ([Value.slice aC 16 cC, Value.slice bC 16 dC] : List Value).toArray := ⟨_, rfl⟩
   rw [← hV24] at bV EC
   replace B := B.trans (bV.mono B.size)
   replace kVv := kVv.kept bV
   replace kDv := kDv.kept bV
   replace E1 := E1.kept bV
   replace E2 := E2.kept bV
   replace ES := ES.kept bV
   replace iZ := iZ.below bV
   replace EZ := EZ.kept bV
   replace i1 := i1.below bV
   replace i2 := i2.below bV
   replace iSS := iSS.below bV
   replace iT := iT.below bV
   replace ET := ET.kept bV
   replace iO := iO.below bV
   replace EO := EO.kept bV
   replace iI := iI.below bV
   replace EI := EI.kept bV
   replace iW := iW.below bV
   replace EW := EW.kept bV
   replace iU := iU.below bV
   replace EU := EU.kept bV
   replace iC := iC.below bV
   clear bV
   go_wp2_with (first
     | (refine wpList_store_row rfl 27 _ _ rfl w23.heap.size ([Value.slice aC 16 cC, Value.slice bC 16 dC]).toArray rfl rfl 27 _ A0 infoPt rfl (by simp [Value.oneCell']) ?_; rw [← hV24]; clear hV24 A0)
     | (refine wpList_load_row rfl 27 _ rfl (w1.heap.size + 1) rfl 27 ([Value.slice a2 16 c2, Value.slice b2 16 d2]).toArray (0, 0) _ E2 Tryd.underlying27 rfl infoPt ?_)
     | (refine wpList_load_rowW rfl 27 _ rfl (w1.heap.size + 1) rfl 27 ([Value.slice a2 16 c2, Value.slice b2 16 d2]).toArray (0, 0) _ E2 Tryd.underlying27 rfl infoPt ?_))
   refine (okPTwice a2 c2 b2 d2 _ _ i2 oC kVv kDv).mono ?_
   rintro e w25 ⟨aD, cD, bD, dD, rfl, iD, hb25⟩
   replace B := B.trans (hb25.mono B.size)
   replace kVv := kVv.kept hb25
   replace kDv := kDv.kept hb25
   replace E1 := E1.kept hb25
   replace E2 := E2.kept hb25
   replace ES := ES.kept hb25
   replace iZ := iZ.below hb25
   replace EZ := EZ.kept hb25
   replace i1 := i1.below hb25
   replace i2 := i2.below hb25
   replace iSS := iSS.below hb25
   replace iT := iT.below hb25
   replace ET := ET.kept hb25
   replace iO := iO.below hb25
   replace EO := EO.kept hb25
   replace iI := iI.below hb25
   replace EI := EI.kept hb25
   replace iW := iW.below hb25
   replace EW := EW.kept hb25
   replace iU := iU.below hb25
   replace EU := EU.kept hb25
   replace iC := iC.below hb25
   replace EC := EC.kept hb25
   clear hb25
   obtain ⟨bV, ED, A0, _⟩ := laid_two w25 27 (.slice none 0 0) (.slice none 0 0) (.slice aD 16 cD) (.slice bD 16 dD)
   obtain ⟨V26, hV26⟩ : ∃ V, V = (w25.alloc (.cells #[.slice none 0 0, .slice none 0 0] 27)).setRow w25.heap.size ([Value.slice aD 16 cD, Value.slice bD 16 dD] : List Value).toArray := ⟨_, rfl⟩
   rw [← hV26] at bV ED
   replace B := B.trans (bV.mono B.size)
   replace kVv := kVv.kept bV
   replace kDv := kDv.kept bV
   replace E1 := E1.kept bV
   replace E2 := E2.kept bV
   replace ES := ES.kept bV
   replace iZ := iZ.below bV
   replace EZ := EZ.kept bV
   replace i1 := i1.below bV
   replace i2 := i2.below bV
   replace iSS := iSS.below bV
   replace iT := iT.below bV
   replace ET := ET.kept bV
   replace iO := iO.below bV
   replace EO := EO.kept bV
   replace iI := iI.below bV
   replace EI := EI.kept bV
   replace iW := iW.below bV
   replace EW := EW.kept bV
   replace iU := iU.below bV
   replace EU := EU.kept bV
   replace iC := iC.below bV
   replace EC := EC.kept bV
   replace iD := iD.below bV
   clear bV
   go_wp2_with (first
     | (refine wpList_store_row rfl 27 _ _ rfl w25.heap.size ([Value.slice aD 16 cD, Value.slice bD 16 dD]).toArray rfl rfl 27 _ A0 infoPt rfl (by simp [Value.oneCell']) ?_; rw [← hV26]; clear hV26 A0)
     | (refine wpList_load_row rfl 27 _ rfl (w1.heap.size) rfl 27 ([Value.slice a1 16 c1, Value.slice b1 16 d1]).toArray (0, 0) _ E1 Tryd.underlying27 rfl infoPt ?_)
     | (refine wpList_load_rowW rfl 27 _ rfl (w1.heap.size) rfl 27 ([Value.slice a1 16 c1, Value.slice b1 16 d1]).toArray (0, 0) _ E1 Tryd.underlying27 rfl infoPt ?_)
     | (refine wpList_load_row rfl 27 _ rfl (w25.heap.size) rfl 27 ([Value.slice aD 16 cD, Value.slice bD 16 dD]).toArray (0, 0) _ ED Tryd.underlying27 rfl infoPt ?_)
     | (refine wpList_load_rowW rfl 27 _ rfl (w25.heap.size) rfl 27 ([Value.slice aD 16 cD, Value.slice bD 16 dD]).toArray (0, 0) _ ED Tryd.underlying27 rfl infoPt ?_))
   refine (okPAdd a1 c1 b1 d1 _ aD cD bD dD _ _ i1 iD oA oD kVv kDv).mono ?_
   rintro e w27 ⟨aF, cF, bF, dF, rfl, iF, hb27⟩
   replace B := B.trans (hb27.mono B.size)
   replace kVv := kVv.kept hb27
   replace kDv := kDv.kept hb27
   replace E1 := E1.kept hb27
   replace E2 := E2.kept hb27
   replace ES := ES.kept hb27
   replace iZ := iZ.below hb27
   replace EZ := EZ.kept hb27
   replace i1 := i1.below hb27
   replace i2 := i2.below hb27
   replace iSS := iSS.below hb27
   replace iT := iT.below hb27
   replace ET := ET.kept hb27
   replace iO := iO.below hb27
   replace EO := EO.kept hb27
   replace iI := iI.below hb27
   replace EI := EI.kept hb27
   replace iW := iW.below hb27
   replace EW := EW.kept hb27
   replace iU := iU.below hb27
   replace EU := EU.kept hb27
   replace iC := iC.below hb27
   replace EC := EC.kept hb27
   replace iD := iD.below hb27
   replace ED := ED.kept hb27
   clear hb27
   obtain ⟨bV, EF, A0, _⟩ := laid_two w27 27 (.slice none 0 0) (.slice none 0 0) (.slice aF 16 cF) (.slice bF 16 dF)
   obtain ⟨V28, hV28⟩ : ∃ V, V = (w27.alloc (.cells #[.slice none 0 0, .slice none 0 0] 27)).setRow w27.heap.size ([Value.slice aF 16 cF, Value.slice bF 16 dF] : List Value).toArray := ⟨_, rfl⟩
   rw [← hV28] at bV EF
   replace B := B.trans (bV.mono B.size)
   replace kVv := kVv.kept bV
   replace kDv := kDv.kept bV
   replace E1 := E1.kept bV
   replace E2 := E2.kept bV
   replace ES := ES.kept bV
   replace iZ := iZ.below bV
   replace EZ := EZ.kept bV
   replace i1 := i1.below bV
   replace i2 := i2.below bV
   replace iSS := iSS.below bV
   replace iT := iT.below bV
   replace ET := ET.kept bV
   replace iO := iO.below bV
   replace EO := EO.kept bV
   replace iI := iI.below bV
   replace EI := EI.kept bV
   replace iW := iW.below bV
   replace EW := EW.kept bV
   replace iU := iU.below bV
   replace EU := EU.kept bV
   replace iC := iC.below bV
   replace EC := EC.kept bV
   replace iD := iD.below bV
   replace ED := ED.kept bV
   replace iF := iF.below bV
   clear bV
   clear ED
   clear iD
   go_wp2_with (first
     | (refine wpList_store_row rfl 27 _ _ rfl w27.heap.size ([Value.slice aF 16 cF, Value.slice bF 16 dF]).toArray rfl rfl 27 _ A0 infoPt rfl (by simp [Value.oneCell']) ?_; rw [← hV28]; clear hV28 A0)
     | (refine wpList_load_row rfl 27 _ rfl (w3.heap.size) rfl 27 ([Value.slice aS 16 cS, Value.slice bS 16 dS]).toArray (0, 0) _ ES Tryd.underlying27 rfl infoPt ?_)
     | (refine wpList_load_rowW rfl 27 _ rfl (w3.heap.size) rfl 27 ([Value.slice aS 16 cS, Value.slice bS 16 dS]).toArray (0, 0) _ ES Tryd.underlying27 rfl infoPt ?_))
   refine (okPOk aS cS bS dS _ _ iSS oS kVv kDv).mono ?_
   rintro e w29 ⟨rfl, hb29⟩
   replace B := B.trans (hb29.mono B.size)
   replace kVv := kVv.kept hb29
   replace kDv := kDv.kept hb29
   replace E1 := E1.kept hb29
   replace E2 := E2.kept hb29
   replace ES := ES.kept hb29
   replace iZ := iZ.below hb29
   replace EZ := EZ.kept hb29
   replace i1 := i1.below hb29
   replace i2 := i2.below hb29
   replace iSS := iSS.below hb29
   replace iT := iT.below hb29
   replace ET := ET.kept hb29
   replace iO := iO.below hb29
   replace EO := EO.kept hb29
   replace iI := iI.below hb29
   replace EI := EI.kept hb29
   replace iW := iW.below hb29
   replace EW := EW.kept hb29
   replace iU := iU.below hb29
   replace EU := EU.kept hb29
   replace iC := iC.below hb29
   replace EC := EC.kept hb29
   replace iF := iF.below hb29
   replace EF := EF.kept hb29
   clear hb29
   go_wp2_with (first
     | (refine wpList_load_row rfl 27 _ rfl (w3.heap.size) rfl 27 ([Value.slice aS 16 cS, Value.slice bS 16 dS]).toArray (0, 0) _ ES Tryd.underlying27 rfl infoPt ?_)
     | (refine wpList_load_rowW rfl 27 _ rfl (w3.heap.size) rfl 27 ([Value.slice aS 16 cS, Value.slice bS 16 dS]).toArray (0, 0) _ ES Tryd.underlying27 rfl infoPt ?_)
     | (refine wpList_load_row rfl 27 _ rfl (w11.heap.size) rfl 27 ([Value.slice aT 16 cT, Value.slice bT 16 dT]).toArray (0, 0) _ ET Tryd.underlying27 rfl infoPt ?_)
     | (refine wpList_load_rowW rfl 27 _ rfl (w11.heap.size) rfl 27 ([Value.slice aT 16 cT, Value.slice bT 16 dT]).toArray (0, 0) _ ET Tryd.underlying27 rfl infoPt ?_))
   refine (okSame aS cS bS dS aT cT bT dT _ _ _ iSS iT HE.out.1).mono ?_
   rintro e w30 ⟨rfl, hb30⟩
   replace B := B.trans (hb30.mono B.size)
   replace kVv := kVv.kept hb30
   replace kDv := kDv.kept hb30
   replace E1 := E1.kept hb30
   replace E2 := E2.kept hb30
   replace ES := ES.kept hb30
   replace iZ := iZ.below hb30
   replace EZ := EZ.kept hb30
   replace i1 := i1.below hb30
   replace i2 := i2.below hb30
   replace iSS := iSS.below hb30
   replace iT := iT.below hb30
   replace ET := ET.kept hb30
   replace iO := iO.below hb30
   replace EO := EO.kept hb30
   replace iI := iI.below hb30
   replace EI := EI.kept hb30
   replace iW := iW.below hb30
   replace EW := EW.kept hb30
   replace iU := iU.below hb30
   replace EU := EU.kept hb30
   replace iC := iC.below hb30
   replace EC := EC.kept hb30
   replace iF := iF.below hb30
   replace EF := EF.kept hb30
   clear hb30
   go_wp2_with (first
     | (refine wpList_load_row rfl 27 _ rfl (w15.heap.size) rfl 27 ([Value.slice aO 16 cO, Value.slice bO 16 dO]).toArray (0, 0) _ EO Tryd.underlying27 rfl infoPt ?_)
     | (refine wpList_load_rowW rfl 27 _ rfl (w15.heap.size) rfl 27 ([Value.slice aO 16 cO, Value.slice bO 16 dO]).toArray (0, 0) _ EO Tryd.underlying27 rfl infoPt ?_)
     | (refine wpList_load_row rfl 27 _ rfl (w5.heap.size) rfl 27 ([Value.slice aZ 16 cZ, Value.slice bZ 16 dZ]).toArray (0, 0) _ EZ Tryd.underlying27 rfl infoPt ?_)
     | (refine wpList_load_rowW rfl 27 _ rfl (w5.heap.size) rfl 27 ([Value.slice aZ 16 cZ, Value.slice bZ 16 dZ]).toArray (0, 0) _ EZ Tryd.underlying27 rfl infoPt ?_))
   refine (okSame aO cO bO dO aZ cZ bZ dZ _ _ _ iO iZ HE.out.2.1).mono ?_
   rintro e w31 ⟨rfl, hb31⟩
   replace B := B.trans (hb31.mono B.size)
   replace kVv := kVv.kept hb31
   replace kDv := kDv.kept hb31
   replace E1 := E1.kept hb31
   replace E2 := E2.kept hb31
   replace ES := ES.kept hb31
   replace iZ := iZ.below hb31
   replace EZ := EZ.kept hb31
   replace i1 := i1.below hb31
   replace i2 := i2.below hb31
   replace iSS := iSS.below hb31
   replace iT := iT.below hb31
   replace ET := ET.kept hb31
   replace iO := iO.below hb31
   replace EO := EO.kept hb31
   replace iI := iI.below hb31
   replace EI := EI.kept hb31
   replace iW := iW.below hb31
   replace EW := EW.kept hb31
   replace iU := iU.below hb31
   replace EU := EU.kept hb31
   replace iC := iC.below hb31
   replace EC := EC.kept hb31
   replace iF := iF.below hb31
   replace EF := EF.kept hb31
   clear hb31
   go_wp2_with (first
     | (refine wpList_load_row rfl 27 _ rfl (w17.heap.size) rfl 27 ([Value.slice aI 16 cI, Value.slice bI 16 dI]).toArray (0, 0) _ EI Tryd.underlying27 rfl infoPt ?_)
     | (refine wpList_load_rowW rfl 27 _ rfl (w17.heap.size) rfl 27 ([Value.slice aI 16 cI, Value.slice bI 16 dI]).toArray (0, 0) _ EI Tryd.underlying27 rfl infoPt ?_)
     | (refine wpList_load_row rfl 27 _ rfl (w1.heap.size) rfl 27 ([Value.slice a1 16 c1, Value.slice b1 16 d1]).toArray (0, 0) _ E1 Tryd.underlying27 rfl infoPt ?_)
     | (refine wpList_load_rowW rfl 27 _ rfl (w1.heap.size) rfl 27 ([Value.slice a1 16 c1, Value.slice b1 16 d1]).toArray (0, 0) _ E1 Tryd.underlying27 rfl infoPt ?_))
   refine (okSame aI cI bI dI a1 c1 b1 d1 _ _ _ iI i1 HE.out.2.2.1).mono ?_
   rintro e w32 ⟨rfl, hb32⟩
   replace B := B.trans (hb32.mono B.size)
   replace kVv := kVv.kept hb32
   replace kDv := kDv.kept hb32
   replace E1 := E1.kept hb32
   replace E2 := E2.kept hb32
   replace ES := ES.kept hb32
   replace iZ := iZ.below hb32
   replace EZ := EZ.kept hb32
   replace i1 := i1.below hb32
   replace i2 := i2.below hb32
   replace iSS := iSS.below hb32
   replace iT := iT.below hb32
   replace ET := ET.kept hb32
   replace iO := iO.below hb32
   replace EO := EO.kept hb32
   replace iI := iI.below hb32
   replace EI := EI.kept hb32
   replace iW := iW.below hb32
   replace EW := EW.kept hb32
   replace iU := iU.below hb32
   replace EU := EU.kept hb32
   replace iC := iC.below hb32
   replace EC := EC.kept hb32
   replace iF := iF.below hb32
   replace EF := EF.kept hb32
   clear hb32
   go_wp2_with (first
     | (refine wpList_load_row rfl 27 _ rfl (w19.heap.size) rfl 27 ([Value.slice aW 16 cW, Value.slice bW 16 dW]).toArray (0, 0) _ EW Tryd.underlying27 rfl infoPt ?_)
     | (refine wpList_load_rowW rfl 27 _ rfl (w19.heap.size) rfl 27 ([Value.slice aW 16 cW, Value.slice bW 16 dW]).toArray (0, 0) _ EW Tryd.underlying27 rfl infoPt ?_)
     | (refine wpList_load_row rfl 27 _ rfl (w21.heap.size) rfl 27 ([Value.slice aU 16 cU, Value.slice bU 16 dU]).toArray (0, 0) _ EU Tryd.underlying27 rfl infoPt ?_)
     | (refine wpList_load_rowW rfl 27 _ rfl (w21.heap.size) rfl 27 ([Value.slice aU 16 cU, Value.slice bU 16 dU]).toArray (0, 0) _ EU Tryd.underlying27 rfl infoPt ?_))
   refine (okSame aW cW bW dW aU cU bU dU _ _ _ iW iU rfl).mono ?_
   rintro e w33 ⟨rfl, hb33⟩
   replace B := B.trans (hb33.mono B.size)
   replace kVv := kVv.kept hb33
   replace kDv := kDv.kept hb33
   replace E1 := E1.kept hb33
   replace E2 := E2.kept hb33
   replace ES := ES.kept hb33
   replace iZ := iZ.below hb33
   replace EZ := EZ.kept hb33
   replace i1 := i1.below hb33
   replace i2 := i2.below hb33
   replace iSS := iSS.below hb33
   replace iT := iT.below hb33
   replace ET := ET.kept hb33
   replace iO := iO.below hb33
   replace EO := EO.kept hb33
   replace iI := iI.below hb33
   replace EI := EI.kept hb33
   replace iW := iW.below hb33
   replace EW := EW.kept hb33
   replace iU := iU.below hb33
   replace EU := EU.kept hb33
   replace iC := iC.below hb33
   replace EC := EC.kept hb33
   replace iF := iF.below hb33
   replace EF := EF.kept hb33
   clear hb33
   go_wp2_with (first
     | (refine wpList_load_row rfl 27 _ rfl (w23.heap.size) rfl 27 ([Value.slice aC 16 cC, Value.slice bC 16 dC]).toArray (0, 0) _ EC Tryd.underlying27 rfl infoPt ?_)
     | (refine wpList_load_rowW rfl 27 _ rfl (w23.heap.size) rfl 27 ([Value.slice aC 16 cC, Value.slice bC 16 dC]).toArray (0, 0) _ EC Tryd.underlying27 rfl infoPt ?_)
     | (refine wpList_load_row rfl 27 _ rfl (w27.heap.size) rfl 27 ([Value.slice aF 16 cF, Value.slice bF 16 dF]).toArray (0, 0) _ EF Tryd.underlying27 rfl infoPt ?_)
     | (refine wpList_load_rowW rfl 27 _ rfl (w27.heap.size) rfl 27 ([Value.slice aF 16 cF, Value.slice bF 16 dF]).toArray (0, 0) _ EF Tryd.underlying27 rfl infoPt ?_))
   refine (okSame aC cC bC dC aF cF bF dF _ _ _ iC iF HE.out.2.2.2).mono ?_
   rintro e w34 ⟨rfl, hb34⟩
   replace B := B.trans (hb34.mono B.size)
   replace kVv := kVv.kept hb34
   replace kDv := kDv.kept hb34
   replace E1 := E1.kept hb34
   replace E2 := E2.kept hb34
   replace ES := ES.kept hb34
   replace iZ := iZ.below hb34
   replace EZ := EZ.kept hb34
   replace i1 := i1.below hb34
   replace i2 := i2.below hb34
   replace iSS := iSS.below hb34
   replace iT := iT.below hb34
   replace ET := ET.kept hb34
   replace iO := iO.below hb34
   replace EO := EO.kept hb34
   replace iI := iI.below hb34
   replace EI := EI.kept hb34
   replace iW := iW.below hb34
   replace EW := EW.kept hb34
   replace iU := iU.below hb34
   replace EU := EU.kept hb34
   replace iC := iC.below hb34
   replace EC := EC.kept hb34
   replace iF := iF.below hb34
   replace EF := EF.kept hb34
   clear hb34
   go_wp2_with fail
   go_ret
   exact ⟨rfl, B⟩
end Go.Proofs.YtoblilngppjmhaaDoor

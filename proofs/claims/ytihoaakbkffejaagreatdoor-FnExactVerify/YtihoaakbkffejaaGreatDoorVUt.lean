/-
  What is proved here: contracts of the specification's l6read and PtRead.
-/
import Derived.Test.YtihoaakbkffejaaGreatDoorVHc
import Derived.Test.YtihoaakbkffejaaGreatDoorVUff
import Derived.Test.YtihoaakbkffejaaGreatDoorVJa
import Derived.Test.YtihoaakbkffejaaGreatDoorVFm
import Derived.Test.YtihoaakbkffejaaGreatDoorVTm
namespace Go.Proofs.YtihoaakbkffejaaGreatDoor
open Go.RowKit
set_option maxRecDepth 100000

def rdC (bs : List Int) : List Int := if rdOk6 bs = true then (mk6 (xR (yR bs) (odd6 bs)) (yR bs)).cells else Z64
theorem built_p60 (w : World) : (Instr.build 86 #[]).run Tryz.prog w = .ok (.agg (I64 Z64).toArray) w := by kernel_rfl
theorem bits_127 : ∀ t : Fin 256, bits .and .u8 ((t.val : Nat) : Int) 127 = ((t.val : Nat) : Int) % 128 := by decide
theorem and_127 {t : Int} (h0 : 0 ≤ t) (h1 : t < 256) : bits .and .u8 t 127 = t % 128 := by
 obtain ⟨n, rfl⟩ := Int.eq_ofNat_of_zero_le h0
 exact bits_127 ⟨n, by omega⟩

set_option maxHeartbeats 16000000 in
theorem spec6read (a : Option Addr) (n c : Nat) (bs : List Int) (w : World) (hx : Bs w a n c bs) :
  Calls Tryz.prog 70 #[.slice a n c] w fun e w' => e = .returned (.tuple #[.agg (I64 (rdC bs)).toArray, .bool (rdOk6 bs)]) ∧ Below w.heap.size w w' := by
 obtain ⟨T, hT⟩ : ∃ T, T = rdC bs := ⟨_, rfl⟩
 obtain ⟨r, hr⟩ : ∃ r, r = rdOk6 bs := ⟨_, rfl⟩
 have HT0 : Hid (r = false → T = Z64) := by unfold Hid; intro h; rw [hT]; unfold rdC; rw [← hr, h]; rfl
 have HT1 : Hid (r = true → T = (mk6 (xR (yR bs) (odd6 bs)) (yR bs)).cells) := by unfold Hid; intro h; rw [hT]; unfold rdC; rw [← hr, if_pos h]
 have HR : Hid (r = (decide (bs.length = 32) && decide (val (yR bs) < P25519) && okR (yR bs) (odd6 bs))) := hr
 rw [← hT, ← hr]
 clear hT hr
 have hz : (Tryz.prog.info? 86).map (·.size) = some (I64 Z64).toArray.size := infoP6
 have hbz := built_p60
 have hl := hx.2.1
 have hby := hx.2.2.2.1
 by_cases hn : n = 32
 rotate_left
 ·skip
  have hn1 : ((n : Int) != 32) = true := by simp; omega
  have hn2 : ¬ ((n : Int) = 32) := by omega
  obtain ⟨W, hW⟩ : ∃ W, W = w.alloc (.cells #[.int .i64 0, .int .i64 0, .int .i64 0, .int .i64 0, .int .i64 0, .int .i64 0, .int .i64 0, .int .i64 0, .int .i64 0, .int .i64 0, .int .i64 0, .int .i64 0, .int .i64 0, .int .i64 0, .int .i64 0, .int .i64 0, .int .i64 0, .int .i64 0, .int .i64 0, .int .i64 0, .int .i64 0, .int .i64 0, .int .i64 0, .int .i64 0, .int .i64 0, .int .i64 0, .int .i64 0, .int .i64 0, .int .i64 0, .int .i64 0, .int .i64 0, .int .i64 0, .int .i64 0, .int .i64 0, .int .i64 0, .int .i64 0, .int .i64 0, .int .i64 0, .int .i64 0, .int .i64 0, .int .i64 0, .int .i64 0, .int .i64 0, .int .i64 0, .int .i64 0, .int .i64 0, .int .i64 0, .int .i64 0, .int .i64 0, .int .i64 0, .int .i64 0, .int .i64 0, .int .i64 0, .int .i64 0, .int .i64 0, .int .i64 0, .int .i64 0, .int .i64 0, .int .i64 0, .int .i64 0, .int .i64 0, .int .i64 0, .int .i64 0, .int .i64 0] 86) := ⟨_, rfl⟩
  have fr : Below w.heap.size w W := by rw [hW]; exact ((Below.refl _ _).alloc (Nat.le_refl _) _)
  have pr : Arr W w.heap.size 86 (I64 Z64) := by
   rw [hW]
   have := Arr.new (w) (I64 Z64) 86
   exact this
  go_enter Tryz.func70, Tryz.ntmps70
  go_upto_region 1 with fail
  rw [← hW]
  clear hW
  have h2 := pr.row (I64 Z64)
  have HB : Hid _ := setRow_below fr w.heap.size (I64 Z64).toArray (by omega)
  have hRf : Hid (r = false) := by unfold Hid; rw [HR.out]; simp [show ¬ bs.length = 32 by omega]
  have hTf : Hid (T = Z64) := HT0.out hRf.out
  go_wp2_with (refine wpList_store_row rfl 86 _ _ rfl w.heap.size (I64 Z64).toArray rfl rfl 86 _ pr hz (by simp []) (by simp [Value.oneCell']) ?_)
  exact bodyPost_ret (results_row_tmp (v := .bool false) (cs := I64 Z64) rfl rfl rfl h2 Tryz.underlying86 rfl hz) rfl ⟨by rw [hTf.out, hRf.out], HB.out⟩
 subst hn
 obtain ⟨t, ht⟩ : ∃ t, t = bs.getD 31 0 := ⟨_, rfl⟩
 have ht0 := gD_u8 hby 31
 rw [← ht] at ht0
 obtain ⟨q, hq⟩ : ∃ q, q = t / 128 := ⟨_, rfl⟩
 have hq2 : q = 0 ∨ q = 1 := by omega
 have HQ : Hid (odd6 bs = q) := by unfold Hid odd6; rw [hq, ht]
 obtain ⟨lo, hlo⟩ : ∃ l, l = lowB bs := ⟨_, rfl⟩
 have HLO : Hid (bs.set 31 (t % 128) = lo) := by unfold Hid; rw [hlo, ht]; rfl
 have hlb : ∀ x ∈ lo, 0 ≤ x ∧ x < 256 := by rw [hlo]; exact lowB_byte hby
 obtain ⟨y, hy⟩ : ∃ y, y = yR bs := ⟨_, rfl⟩
 have ny : y.length = 16 := by rw [hy]; exact yR_len bs
 have ly : Lm y := by rw [hy]; exact yR_lm hby
 have jy : (Tryz.prog.info? 80).map (·.size) = some (I64 y).toArray.size := by simpa [ny] using infoE
 have iiy : (Tryz.prog.info? 80).map (·.size) = some (I64 y).length := by simpa [ny] using infoE
 have HRD : Hid (∀ (a : Option Addr) (c : Nat) (Z : World), Bs Z a 32 c lo → Calls Tryz.prog 51 #[.slice a 32 c] Z fun e w' => e = .returned (.agg (I64 y).toArray) ∧ Below Z.heap.size Z w') := by
  unfold Hid; intro a c Z h; rw [hy]; unfold yR; rw [← hlo]; exact specRead16 a c lo Z h
 have HPR : Hid (∀ Z, Calls Tryz.prog 112 #[] Z fun e w' => e = .returned (.agg (I64 PL).toArray) ∧ Below Z.heap.size Z w') := by unfold Hid; intro Z; exact specPrime Z
 obtain ⟨p, hp⟩ : ∃ p, p = decide (val y < P25519) := ⟨_, rfl⟩
 have HLS : Hid (∀ Z, Calls Tryz.prog 71 #[.agg (I64 y).toArray, .agg (I64 PL).toArray] Z fun e w' => e = .returned (.bool p) ∧ Below Z.heap.size Z w') := by
  unfold Hid; intro Z; have := specLess y PL Z ny PL_len ly PL_lm; rw [PL_val, ← hp] at this; exact this
 have HY : Hid (p = true → feOk y = true) := by unfold Hid; intro h; rw [hp] at h; exact (feOk_iff _).2 ⟨ny, ly, of_decide_eq_true h⟩
 have HRY : Hid (r = (p && okR y q)) := by unfold Hid; rw [HR.out, ← hy, HQ.out, ← hp, show decide (bs.length = 32) = true by simp [hl]]; rfl
 have HTY : Hid (r = true → T = (mk6 (xR y q) y).cells) := by unfold Hid; rw [hy, ← HQ.out]; exact HT1.out
 have hBS := hx
 obtain ⟨_, _, hc, _, hx⟩ := hx
 rcases hx with hx | ⟨b, o, rfl, hbs, hcell⟩
 ·omega
 have c31 : w.cell? ⟨b, o + 31, none⟩ = some (.int .u8 t) := by rw [ht]; exact hcell 31 (by omega)
 have ht2 : Hid (bs.getD 31 0 = t) := ht.symm
 clear HR HT1 HQ hy hlo hp ht hcell
 obtain ⟨W, hW⟩ : ∃ W, W = w.alloc (.cells #[.int .i64 0, .int .i64 0, .int .i64 0, .int .i64 0, .int .i64 0, .int .i64 0, .int .i64 0, .int .i64 0, .int .i64 0, .int .i64 0, .int .i64 0, .int .i64 0, .int .i64 0, .int .i64 0, .int .i64 0, .int .i64 0, .int .i64 0, .int .i64 0, .int .i64 0, .int .i64 0, .int .i64 0, .int .i64 0, .int .i64 0, .int .i64 0, .int .i64 0, .int .i64 0, .int .i64 0, .int .i64 0, .int .i64 0, .int .i64 0, .int .i64 0, .int .i64 0, .int .i64 0, .int .i64 0, .int .i64 0, .int .i64 0, .int .i64 0, .int .i64 0, .int .i64 0, .int .i64 0, .int .i64 0, .int .i64 0, .int .i64 0, .int .i64 0, .int .i64 0, .int .i64 0, .int .i64 0, .int .i64 0, .int .i64 0, .int .i64 0, .int .i64 0, .int .i64 0, .int .i64 0, .int .i64 0, .int .i64 0, .int .i64 0, .int .i64 0, .int .i64 0, .int .i64 0, .int .i64 0, .int .i64 0, .int .i64 0, .int .i64 0, .int .i64 0] 86) := ⟨_, rfl⟩
 have fr : Below w.heap.size w W := by rw [hW]; exact ((Below.refl _ _).alloc (Nat.le_refl _) _)
 have pr : Arr W w.heap.size 86 (I64 Z64) := by
  rw [hW]
  have := Arr.new (w) (I64 Z64) 86
  exact this
 go_enter Tryz.func70, Tryz.ntmps70
 go_upto_region 1 with fail
 rw [← hW]
 clear hW
 have c31 := (fr.cell (p := ⟨b, o + 31, none⟩) hbs).trans c31
 have hBS := hBS.below fr
 have hsh : t / 128 = q := hq.symm
 clear hq
 have hWsz : w.heap.size < W.heap.size := pr.lt
 go_upto_region 4 with fail
 have ow : (W.alloc (.cells #[] 5)).ownsRow W.heap.size 5 1 (.slice (some ⟨W.heap.size, 0, none⟩) 0 0) 0 (U8 []) := World.ownsRow_lit (base := W.heap.size) (e := 5) (size := 1) W #[] 0 (Nat.le_refl _) (by unfold maxLen; omega) rfl
 have bA : Below W.heap.size W (W.alloc (.cells #[] 5)) := (Below.refl _ _).alloc (Nat.le_refl _) _
 clear c31
 go_wp2_with (at_builtin; refine wpl_append_bs rfl _ _ rfl W.heap.size _ 0 [] rfl (some ⟨b, o, none⟩) 32 c bs rfl ow (hBS.below bA) (by omega) (by simp) ?_)
 intro v1 W1 ow1 gr1 hne1
 have bW : Below W.heap.size W W1 := bA.grown gr1 (by simp) (fun k hk => by cases hk; exact Nat.le_refl _)
 obtain ⟨g, cap, rfl, hgW⟩ : ∃ g cap, v1 = .slice (some ⟨g, 0, none⟩) 32 cap ∧ W.heap.size ≤ g := by
  rcases ow1.2 with ⟨hv, _⟩ | ⟨g, cap, cu, hv, hg, _⟩
  ·exact (hne1 hv).elim
  ·exact ⟨g, cap, hv, hg⟩
 clear hne1 gr1 ow bA hBS
 replace fr := fr.trans (bW.mono fr.size)
 replace pr := pr.kept bW
 clear bW
 have c31 : W1.cell? ⟨g, 31, none⟩ = some (.int .u8 t) := by rw [own_cell ow1 31 (by omega), ht2.out]
 have fz := ow1.frozenAt 31
 have hand := and_127 ht0.1 ht0.2
 have ow2 := own_at ow1 31 (.int .u8 (t % 128))
 rw [show (U8 bs).set 31 (.int .u8 (t % 128)) = U8 lo by rw [← HLO.out]; simp only [U8, List.map_set]] at ow2
 have hgr : w.heap.size < g := by have := hWsz; omega
 go_upto_region 6 with fail
 obtain ⟨W2, hW2⟩ : ∃ V, V = W1.setCell ⟨g, 31, none⟩ (.int .u8 (t % 128)) := ⟨_, rfl⟩
 rw [← hW2] at ow2 ⊢
 replace fr : Below w.heap.size w W2 := by rw [hW2]; exact fr.setCell (p := ⟨g, 31, none⟩) (by show w.heap.size ≤ g; omega) _
 replace pr : Arr W2 w.heap.size 86 (I64 Z64) := by rw [hW2]; exact pr.other ⟨g, 31, none⟩ _ (by show w.heap.size ≠ g; omega)
 clear hW2 c31 fz ow1
 have bl := bs_of_own ow2 hlb
 clear ow2
 go_wp2_with fail
 refine (HRD.out _ _ _ bl).mono ?_
 rintro e y1 ⟨rfl, hb1⟩
 replace fr := fr.trans (hb1.mono fr.size)
 replace pr := pr.kept hb1
 clear hb1 bl
 have hXy : w.heap.size < y1.heap.size ∧ w.heap.size ≤ y1.heap.size := ⟨pr.lt, fr.size⟩
 obtain ⟨bV, Ay, q1⟩ := laid_e y1 y
 replace fr := fr.trans (bV.mono fr.size)
 replace pr := pr.kept bV
 go_upto_region 7 with (refine wpList_store_row rfl 80 _ _ rfl y1.heap.size (I64 y).toArray rfl rfl 80 _ q1 jy (by simp [ny]) (by simp [Value.oneCell']) ?_)
 obtain ⟨V2, hVV⟩ : ∃ V, V = (y1.alloc (.cells #[.int .i64 0, .int .i64 0, .int .i64 0, .int .i64 0, .int .i64 0, .int .i64 0, .int .i64 0, .int .i64 0, .int .i64 0, .int .i64 0, .int .i64 0, .int .i64 0, .int .i64 0, .int .i64 0, .int .i64 0, .int .i64 0] 80)).setRow y1.heap.size (I64 y).toArray := ⟨_, rfl⟩
 obtain ⟨Xy, hE⟩ : ∃ E, E = y1.heap.size := ⟨_, rfl⟩
 rw [← hVV] at fr pr Ay ⊢
 rw [← hE] at Ay hXy ⊢
 clear hVV hE q1 bV
 have hu : Tryz.prog.underlying 80 = some (.array 16 3) := Tryz.underlying80
 try simp only [Act.put]
 refine tame [kc 32 (.agg (I64 y).toArray), kc 33 (.agg (I64 PL).toArray), kc 34 (.bool p), kc 35 (.bool (!p))] 4 (by kernel_rfl) (by kernel_rfl) (by kernel_rfl) (by repeat' first | exact trivial | apply kc_keeps | apply ka_keeps | constructor) 0 (by kernel_rfl) (fun vv1 ll1 hh1 yW b => ?_) (fun vv1 ll1 hh1 yW b F ivh aph => ?_)
 ·skip
  replace fr := fr.trans (b.mono fr.size)
  replace pr := pr.kept b
  replace Ay := Ay.kept b
  exact ⟨tl (arr_range Ay) iiy hu (by kernel_rfl),
   tc (HPR.out _) (by kernel_rfl),
   tc (HLS.out _) (by kernel_rfl),
   tp (by kernel_rfl), trivial⟩
 obtain ⟨y3, hy⟩ : ∃ z, z = yW := ⟨_, rfl⟩
 rw [← hy] at b F ivh ⊢
 clear hy
 replace fr := fr.trans (b.mono fr.size)
 replace pr := pr.kept b
 replace Ay := Ay.kept b
 clear F
 refine wpAny_done (by kernel_rfl) ?_ _
 simp only [fillK, putT, List.setIfInBounds_toArray, List.set_cons_zero, List.set_cons_succ]
 clear ivh aph b
 cases p with
 | false =>
  have h2 := pr.row (I64 Z64)
  have HB : Hid _ := setRow_below fr w.heap.size (I64 Z64).toArray (by omega)
  have hRf : Hid (r = false) := by unfold Hid; rw [HRY.out]; rfl
  have hTf : Hid (T = Z64) := HT0.out hRf.out
  go_wp2_with (refine wpList_store_row rfl 86 _ _ rfl w.heap.size (I64 Z64).toArray rfl rfl 86 _ pr hz (by simp []) (by simp [Value.oneCell']) ?_)
  exact bodyPost_ret (results_row_tmp (v := .bool false) (cs := I64 Z64) rfl rfl rfl h2 Tryz.underlying86 rfl hz) rfl ⟨by rw [hTf.out, hRf.out], HB.out⟩
 | true =>
  have ky := HY.out (by simp)
  obtain ⟨yy, eyy⟩ : ∃ x_, x_ = red (val y * val y) := ⟨_, rfl⟩
  have kyy : feOk yy = true := by rw [eyy]; exact ok_red _
  obtain ⟨on, eon⟩ : ∃ x_, x_ = lim 16 1 := ⟨_, rfl⟩
  have kon : feOk on = true := by rw [eon]; exact one_ok
  obtain ⟨ov, eov⟩ : ∃ x_, x_ = ovr y := ⟨_, rfl⟩
  have kov : feOk ov = true := by rw [eov]; exact ok_red _
  obtain ⟨dy, edy⟩ : ∃ x_, x_ = red (val DL * val yy) := ⟨_, rfl⟩
  have kdy : feOk dy = true := by rw [edy]; exact ok_red _
  obtain ⟨un, eun⟩ : ∃ x_, x_ = und y := ⟨_, rfl⟩
  have kun : feOk un = true := by rw [eun]; exact ok_red _
  obtain ⟨iv, eiv⟩ : ∃ x_, x_ = invF un := ⟨_, rfl⟩
  have kiv : feOk iv = true := by rw [eiv]; exact inv_ok _
  obtain ⟨s, es⟩ : ∃ x_, x_ = sqx y := ⟨_, rfl⟩
  have ks : feOk s = true := by rw [es]; exact ok_red _
  have Hyy : Hid (∀ Z, Calls Tryz.prog 113 #[.agg (I64 y).toArray, .agg (I64 y).toArray] Z fun e w' => e = .returned (.agg (I64 yy).toArray) ∧ Below Z.heap.size Z w') := by
   unfold Hid; intro Z; rw [eyy]; exact mulC ky ky Z
  have Hon : Hid (∀ Z, Calls Tryz.prog 96 #[.int .i64 1] Z fun e w' => e = .returned (.agg (I64 on).toArray) ∧ Below Z.heap.size Z w') := by unfold Hid; intro Z; rw [eon]; exact specSmall 1 Z (by omega) (by omega)
  have eov2 : ov = red (val yy - val on) := by rw [eov, eyy, eon]; rfl
  have eun2 : un = red (val dy + val on) := by rw [eun, edy, eyy, eon]; rfl
  have es2 : s = red (val ov * val iv) := by rw [es, eov, eiv, eun]; rfl
  have Hov : Hid (∀ Z, Calls Tryz.prog 114 #[.agg (I64 yy).toArray, .agg (I64 on).toArray] Z fun e w' => e = .returned (.agg (I64 ov).toArray) ∧ Below Z.heap.size Z w') := by
   unfold Hid; intro Z; rw [eov2]; exact subC kyy kon Z
  have Hd : Hid (∀ Z, Calls Tryz.prog 117 #[] Z fun e w' => e = .returned (.agg (I64 DL).toArray) ∧ Below Z.heap.size Z w') := by unfold Hid; intro Z; exact spec6d Z
  have Hdy : Hid (∀ Z, Calls Tryz.prog 113 #[.agg (I64 DL).toArray, .agg (I64 yy).toArray] Z fun e w' => e = .returned (.agg (I64 dy).toArray) ∧ Below Z.heap.size Z w') := by
   unfold Hid; intro Z; rw [edy]; exact mulC DL_ok kyy Z
  have Hun : Hid (∀ Z, Calls Tryz.prog 116 #[.agg (I64 dy).toArray, .agg (I64 on).toArray] Z fun e w' => e = .returned (.agg (I64 un).toArray) ∧ Below Z.heap.size Z w') := by
   unfold Hid; intro Z; rw [eun2]; exact addC kdy kon Z
  have Hiv : Hid (∀ Z, Calls Tryz.prog 115 #[.agg (I64 un).toArray] Z fun e w' => e = .returned (.agg (I64 iv).toArray) ∧ Below Z.heap.size Z w') := by unfold Hid; intro Z; rw [eiv]; exact specInv un Z (feOk_len kun) (feOk_lm' kun)
  have Hs : Hid (∀ Z, Calls Tryz.prog 113 #[.agg (I64 ov).toArray, .agg (I64 iv).toArray] Z fun e w' => e = .returned (.agg (I64 s).toArray) ∧ Below Z.heap.size Z w') := by
   unfold Hid; intro Z; rw [es2]; exact mulC kov kiv Z
  obtain ⟨x, ex⟩ : ∃ x, x = rtR s := ⟨_, rfl⟩
  obtain ⟨ok, eok⟩ : ∃ b, b = rtOk s := ⟨_, rfl⟩
  have Hrt : Hid (∀ Z, Calls Tryz.prog 118 #[.agg (I64 s).toArray] Z fun e w' => e = .returned (.tuple #[.agg (I64 x).toArray, .bool ok]) ∧ Below Z.heap.size Z w') := by unfold Hid; intro Z; rw [ex, eok]; exact specRoot16 s Z (feOk_len ks) (feOk_lm' ks)
  have nx : x.length = 16 := by rw [ex]; exact rtR_len s
  have jx : (Tryz.prog.info? 80).map (·.size) = some (I64 x).toArray.size := by simpa [nx] using infoE
  have iix : (Tryz.prog.info? 80).map (·.size) = some (I64 x).length := by simpa [nx] using infoE
  obtain ⟨zz, ezz⟩ : ∃ b, b = decide (x = Z16) := ⟨_, rfl⟩
  have Hze : Hid (∀ Z, Calls Tryz.prog 119 #[.agg (I64 x).toArray] Z fun e w' => e = .returned (.bool zz) ∧ Below Z.heap.size Z w') := by unfold Hid; intro Z; rw [ezz]; exact specZero x Z nx
  have HX : Hid (ok = true → x = rt3 s ∧ feOk x = true) := by
   unfold Hid; intro h; rw [eok] at h
   have h9 : x = rt3 s := by rw [ex]; unfold rtR; rw [if_pos h]
   exact ⟨h9, by rw [h9]; exact (rt3_fe s).1⟩
  have HRX : Hid (r = (ok && !(decide (rt3 s = Z16) && decide (q = 1)))) := by unfold Hid; rw [HRY.out, eok, es]; rfl
  have HTX : Hid (r = true → T = (mk6 (if q = 1 then tk16 PL (rt3 s) else rt3 s) y).cells) := by unfold Hid; intro h; rw [HTY.out h, es]; rfl
  have Hzz : Hid (zz = decide (x = Z16)) := ezz
  clear ex eok ezz
  have jyy := infoE' kyy
  have iiyy := infoEl kyy
  have nyy := feOk_len kyy
  have uyy := one_lm yy
  have jon := infoE' kon
  have iion := infoEl kon
  have non := feOk_len kon
  have uon := one_lm on
  have js := infoE' ks
  have iis := infoEl ks
  have ns := feOk_len ks
  have us := one_lm s
  have hu : Tryz.prog.underlying 80 = some (.array 16 3) := Tryz.underlying80
  clear eov2 eun2 es2 eyy kyy eon kon eov kov edy kdy eun kun eiv kiv es ks HRY HTY HY
  go_wp2_with (refine wpList_load_row rfl 80 _ rfl Xy rfl 80 (I64 y).toArray (0, 0) _ Ay Tryz.underlying80 rfl jy ?_)
  refine (Hyy.out _).mono ?_
  rintro e y4 ⟨rfl, hb4⟩
  replace fr := fr.trans (hb4.mono fr.size)
  replace pr := pr.kept hb4
  replace Ay := Ay.kept hb4
  clear hb4
  have hXyy : w.heap.size < y4.heap.size ∧ Xy < y4.heap.size ∧ w.heap.size ≤ y4.heap.size := ⟨pr.lt, Ay.lt, fr.size⟩
  obtain ⟨bV, Ayy, q1⟩ := laid_e y4 yy
  replace fr := fr.trans (bV.mono fr.size)
  replace pr := pr.kept bV
  replace Ay := Ay.kept bV
  go_upto_region 10 with (refine wpList_store_row rfl 80 _ _ rfl y4.heap.size (I64 yy).toArray rfl rfl 80 _ q1 jyy (by simp [nyy]) (by simp [Value.oneCell']) ?_)
  obtain ⟨V5, hVV⟩ : ∃ V, V = (y4.alloc (.cells #[.int .i64 0, .int .i64 0, .int .i64 0, .int .i64 0, .int .i64 0, .int .i64 0, .int .i64 0, .int .i64 0, .int .i64 0, .int .i64 0, .int .i64 0, .int .i64 0, .int .i64 0, .int .i64 0, .int .i64 0, .int .i64 0] 80)).setRow y4.heap.size (I64 yy).toArray := ⟨_, rfl⟩
  obtain ⟨Xyy, hE⟩ : ∃ E, E = y4.heap.size := ⟨_, rfl⟩
  rw [← hVV] at fr pr Ay Ayy ⊢
  rw [← hE] at Ayy hXyy ⊢
  clear hVV hE q1 bV
  go_wp2_with fail
  refine (Hon.out _).mono ?_
  rintro e y6 ⟨rfl, hb6⟩
  replace fr := fr.trans (hb6.mono fr.size)
  replace pr := pr.kept hb6
  replace Ay := Ay.kept hb6
  replace Ayy := Ayy.kept hb6
  clear hb6
  have hXon : w.heap.size < y6.heap.size ∧ Xy < y6.heap.size ∧ Xyy < y6.heap.size ∧ w.heap.size ≤ y6.heap.size := ⟨pr.lt, Ay.lt, Ayy.lt, fr.size⟩
  obtain ⟨bV, Aon, q1⟩ := laid_e y6 on
  replace fr := fr.trans (bV.mono fr.size)
  replace pr := pr.kept bV
  replace Ay := Ay.kept bV
  replace Ayy := Ayy.kept bV
  go_upto_region 11 with (refine wpList_store_row rfl 80 _ _ rfl y6.heap.size (I64 on).toArray rfl rfl 80 _ q1 jon (by simp [non]) (by simp [Value.oneCell']) ?_)
  obtain ⟨V7, hVV⟩ : ∃ V, V = (y6.alloc (.cells #[.int .i64 0, .int .i64 0, .int .i64 0, .int .i64 0, .int .i64 0, .int .i64 0, .int .i64 0, .int .i64 0, .int .i64 0, .int .i64 0, .int .i64 0, .int .i64 0, .int .i64 0, .int .i64 0, .int .i64 0, .int .i64 0] 80)).setRow y6.heap.size (I64 on).toArray := ⟨_, rfl⟩
  obtain ⟨Xon, hE⟩ : ∃ E, E = y6.heap.size := ⟨_, rfl⟩
  rw [← hVV] at fr pr Ay Ayy Aon ⊢
  rw [← hE] at Aon hXon ⊢
  clear hVV hE q1 bV
  try simp only [Act.put]
  refine tame [kc 41 (.agg (I64 yy).toArray), kc 42 (.agg (I64 on).toArray), kc 43 (.agg (I64 ov).toArray), kc 44 (.agg (I64 DL).toArray), kc 45 (.agg (I64 yy).toArray), kc 46 (.agg (I64 dy).toArray), kc 47 (.agg (I64 on).toArray), kc 48 (.agg (I64 un).toArray), kc 49 (.agg (I64 iv).toArray), kc 50 (.agg (I64 s).toArray), ka 9 80 (I64 Z16)] 11 (by kernel_rfl) (by kernel_rfl) (by kernel_rfl) (by repeat' first | exact trivial | apply kc_keeps | apply ka_keeps | constructor) 1 (by kernel_rfl) (fun vv2 ll2 hh2 yW b => ?_) (fun vv2 ll2 hh2 yW b F ivh aph => ?_)
  ·skip
   replace fr := fr.trans (b.mono fr.size)
   replace pr := pr.kept b
   replace Ay := Ay.kept b
   replace Ayy := Ayy.kept b
   replace Aon := Aon.kept b
   exact ⟨tl (arr_range Ayy) iiyy hu (by kernel_rfl),
    tl (arr_range Aon) iion hu (by kernel_rfl),
    tc (Hov.out _) (by kernel_rfl),
    tc (Hd.out _) (by kernel_rfl),
    tl (arr_range Ayy) iiyy hu (by kernel_rfl),
    tc (Hdy.out _) (by kernel_rfl),
    tl (arr_range Aon) iion hu (by kernel_rfl),
    tc (Hun.out _) (by kernel_rfl),
    tc (Hiv.out _) (by kernel_rfl),
    tc (Hs.out _) (by kernel_rfl),
    ta (by kernel_rfl), trivial⟩
  obtain ⟨y8, hy⟩ : ∃ z, z = yW := ⟨_, rfl⟩
  rw [← hy] at b F ivh ⊢
  clear hy
  have oq : w.heap.size < V7.heap.size ∧ Xy < V7.heap.size ∧ Xyy < V7.heap.size ∧ Xon < V7.heap.size ∧ w.heap.size ≤ V7.heap.size := ⟨pr.lt, Ay.lt, Ayy.lt, Aon.lt, fr.size⟩
  replace fr := fr.trans (b.mono fr.size)
  replace pr := pr.kept b
  replace Ay := Ay.kept b
  replace Ayy := Ayy.kept b
  replace Aon := Aon.kept b
  obtain ⟨-, -, -, -, -, -, -, -, -, -, ⟨As, gXs⟩, -⟩ := F
  have iXs := ivh 10 (by decide)
  replace As : Arr y8 (ll2 10) 80 (I64 Z16) := As
  replace gXs : ll2 10 < hh2 10 := gXs
  have lXs := As.lt
  refine st_row (i := 11) (by kernel_rfl) rfl rfl rfl rfl As (by kernel_rfl) (by kernel_rfl) (by simp [ns]) js us ?_
  replace fr := bel_sc fr (ll2 10) (I64 s) (by omega)
  replace pr := pr.sc (ll2 10) (I64 s) (by omega)
  replace Ay := Ay.sc (ll2 10) (I64 s) (by omega)
  replace Ayy := Ayy.sc (ll2 10) (I64 s) (by omega)
  replace Aon := Aon.sc (ll2 10) (I64 s) (by omega)
  replace As := As.sc0 (I64 s) (by simp [ns])
  obtain ⟨V9, hVe⟩ : ∃ V, V = y8.setCells (ll2 10) 0 (I64 s) := ⟨_, rfl⟩
  rw [← hVe] at fr pr Ay Ayy Aon As ⊢
  clear hVe
  refine wpAny_done (by kernel_rfl) ?_ _
  simp only [fillK, putT, List.setIfInBounds_toArray, List.set_cons_zero, List.set_cons_succ]
  have qXs : w.heap.size < ll2 10 ∧ Xy < ll2 10 ∧ Xyy < ll2 10 ∧ Xon < ll2 10 ∧ w.heap.size ≤ ll2 10 := by omega
  clear iXs gXs lXs
  generalize ll2 10 = Xs at *
  clear ivh aph b oq
  clear Ayy
  clear Aon
  go_wp2_with (refine wpList_load_row rfl 80 _ rfl Xs rfl 80 (I64 s).toArray (0, 0) _ As Tryz.underlying80 rfl js ?_)
  refine (Hrt.out _).mono ?_
  rintro e y10 ⟨rfl, hb10⟩
  replace fr := fr.trans (hb10.mono fr.size)
  replace pr := pr.kept hb10
  replace Ay := Ay.kept hb10
  replace As := As.kept hb10
  clear hb10
  have hXx : w.heap.size < y10.heap.size ∧ Xy < y10.heap.size ∧ Xs < y10.heap.size ∧ w.heap.size ≤ y10.heap.size := ⟨pr.lt, Ay.lt, As.lt, fr.size⟩
  obtain ⟨bV, Ax, q1⟩ := laid_e y10 x
  replace fr := fr.trans (bV.mono fr.size)
  replace pr := pr.kept bV
  replace Ay := Ay.kept bV
  replace As := As.kept bV
  go_upto_region 13 with (refine wpList_store_row rfl 80 _ _ rfl y10.heap.size (I64 x).toArray rfl rfl 80 _ q1 jx (by simp [nx]) (by simp [Value.oneCell']) ?_)
  obtain ⟨V11, hVV⟩ : ∃ V, V = (y10.alloc (.cells #[.int .i64 0, .int .i64 0, .int .i64 0, .int .i64 0, .int .i64 0, .int .i64 0, .int .i64 0, .int .i64 0, .int .i64 0, .int .i64 0, .int .i64 0, .int .i64 0, .int .i64 0, .int .i64 0, .int .i64 0, .int .i64 0] 80)).setRow y10.heap.size (I64 x).toArray := ⟨_, rfl⟩
  obtain ⟨Xx, hE⟩ : ∃ E, E = y10.heap.size := ⟨_, rfl⟩
  rw [← hVV] at fr pr Ay As Ax ⊢
  rw [← hE] at Ax hXx ⊢
  clear hVV hE q1 bV
  cases ok with
  | false =>
   have h2 := pr.row (I64 Z64)
   have HB : Hid _ := setRow_below fr w.heap.size (I64 Z64).toArray (by omega)
   have hRf : Hid (r = false) := by unfold Hid; rw [HRX.out]; rfl
   have hTf : Hid (T = Z64) := HT0.out hRf.out
   go_wp2_with (refine wpList_store_row rfl 86 _ _ rfl w.heap.size (I64 Z64).toArray rfl rfl 86 _ pr hz (by simp []) (by simp [Value.oneCell']) ?_)
   exact bodyPost_ret (results_row_tmp (v := .bool false) (cs := I64 Z64) rfl rfl rfl h2 Tryz.underlying86 rfl hz) rfl ⟨by rw [hTf.out, hRf.out], HB.out⟩
  | true =>
   obtain ⟨hx3, kx⟩ := HX.out (by simp)
   have HX3 : Hid (x = rt3 s) := hx3
   clear hx3
   go_wp2_with (refine wpList_load_rowW rfl 80 _ rfl Xx rfl 80 (I64 x).toArray (0, 0) _ Ax Tryz.underlying80 rfl jx ?_)
   refine (Hze.out _).mono ?_
   rintro e y12 ⟨rfl, hb12⟩
   replace fr := fr.trans (hb12.mono fr.size)
   replace pr := pr.kept hb12
   replace Ay := Ay.kept hb12
   replace As := As.kept hb12
   replace Ax := Ax.kept hb12
   clear hb12
   rcases hq2 with rfl | rfl
   ·skip
    have hRt : Hid (r = true) := by unfold Hid; rw [HRX.out]; simp
    have hTt : Hid (T = (mk6 x y).cells) := by unfold Hid; rw [HTX.out hRt.out, if_neg (by omega), HX3.out]
    obtain ⟨P, hPe⟩ : ∃ P, P = mk6 x y := ⟨_, rfl⟩
    have hP : P.Ok := by rw [hPe]; exact mk6_ok kx ky
    have HM : Hid (∀ Z, Calls Tryz.prog 95 #[.agg (I64 x).toArray, .agg (I64 y).toArray] Z fun e w' => e = .returned (.agg (I64 P.cells).toArray) ∧ Below Z.heap.size Z w') := by unfold Hid; intro Z; rw [hPe]; exact spec6make x y Z kx ky
    have hip := infoP' hP
    have hPl := E4.len hP
    have jq := infoE' kx
    cases zz with
    | false =>
     have HPe : Hid (P = mk6 x y) := hPe
     clear hPe
     go_wp2_with (first
       | (refine wpList_load_row rfl 80 _ rfl Xx rfl 80 (I64 x).toArray (0, 0) _ Ax Tryz.underlying80 rfl jq ?_)
       | (refine wpList_load_row rfl 80 _ rfl Xy rfl 80 (I64 y).toArray (0, 0) _ Ay Tryz.underlying80 rfl jy ?_))
     refine (HM.out _).mono ?_
     rintro e y13 ⟨rfl, hb13⟩
     replace fr := fr.trans (hb13.mono fr.size)
     replace pr := pr.kept hb13
     replace Ay := Ay.kept hb13
     replace As := As.kept hb13
     replace Ax := Ax.kept hb13
     clear hb13
     have h2 := pr.row (I64 P.cells)
     have HB : Hid _ := setRow_below fr w.heap.size (I64 P.cells).toArray (by omega)
     go_wp2_with (refine wpList_store_row rfl 86 _ _ rfl w.heap.size (I64 P.cells).toArray rfl rfl 86 _ pr hip (by simp [hPl]) (by simp [Value.oneCell']) ?_)
     exact bodyPost_ret (results_row_tmp (v := .bool true) (cs := I64 P.cells) rfl rfl rfl h2 Tryz.underlying86 rfl hip) rfl ⟨by rw [hTt.out, hRt.out, HPe.out], HB.out⟩
    | true =>
     have HPe : Hid (P = mk6 x y) := hPe
     clear hPe
     go_wp2_with (first
       | (refine wpList_load_row rfl 80 _ rfl Xx rfl 80 (I64 x).toArray (0, 0) _ Ax Tryz.underlying80 rfl jq ?_)
       | (refine wpList_load_row rfl 80 _ rfl Xy rfl 80 (I64 y).toArray (0, 0) _ Ay Tryz.underlying80 rfl jy ?_))
     refine (HM.out _).mono ?_
     rintro e y14 ⟨rfl, hb14⟩
     replace fr := fr.trans (hb14.mono fr.size)
     replace pr := pr.kept hb14
     replace Ay := Ay.kept hb14
     replace As := As.kept hb14
     replace Ax := Ax.kept hb14
     clear hb14
     have h2 := pr.row (I64 P.cells)
     have HB : Hid _ := setRow_below fr w.heap.size (I64 P.cells).toArray (by omega)
     go_wp2_with (refine wpList_store_row rfl 86 _ _ rfl w.heap.size (I64 P.cells).toArray rfl rfl 86 _ pr hip (by simp [hPl]) (by simp [Value.oneCell']) ?_)
     exact bodyPost_ret (results_row_tmp (v := .bool true) (cs := I64 P.cells) rfl rfl rfl h2 Tryz.underlying86 rfl hip) rfl ⟨by rw [hTt.out, hRt.out, HPe.out], HB.out⟩
   ·skip
    cases zz with
    | false =>
     have hRt : Hid (r = true) := by unfold Hid; rw [HRX.out, ← HX3.out, ← Hzz.out]; rfl
     obtain ⟨m, hm⟩ : ∃ m, m = tk16 PL x := ⟨_, rfl⟩
     have hTt : Hid (T = (mk6 m y).cells) := by unfold Hid; rw [HTX.out hRt.out, if_pos rfl, hm, HX3.out]
     have hz0 : val x ≠ 0 := by intro h; have h1 := (z16_of kx).2 h; have h2 := Hzz.out; rw [h1] at h2; simp at h2
     have km : feOk m = true := by
      obtain ⟨l1, l2, l3⟩ := (feOk_iff _).1 kx
      have h0 := val_nonneg (fun x hx => (l2 x hx).1)
      have hv : val (tk16 PL x) = P25519 - val x := by
       rw [tk16_lim PL_len l1, PL_val, val_lim, p256]
       exact Int.emod_eq_of_lt (by omega) (by unfold P25519; omega)
      rw [hm]; exact (feOk_iff _).2 ⟨by rw [tk16_lim PL_len l1]; exact lim_len _ _, by rw [tk16_lim PL_len l1]; exact lim_lm _ _, by rw [hv]; omega⟩
     have Htk : Hid (∀ Z, Calls Tryz.prog 120 #[.agg (I64 PL).toArray, .agg (I64 x).toArray] Z fun e w' => e = .returned (.agg (I64 m).toArray) ∧ Below Z.heap.size Z w') := by unfold Hid; intro Z; rw [hm]; exact specTake PL x Z PL_len nx PL_lm (feOk_lm' kx)
     have jm := infoE' km
     have nm := feOk_len km
     have um := one_lm m
     clear hm hz0
     obtain ⟨P, hPe⟩ : ∃ P, P = mk6 m y := ⟨_, rfl⟩
     have hP : P.Ok := by rw [hPe]; exact mk6_ok km ky
     have HM : Hid (∀ Z, Calls Tryz.prog 95 #[.agg (I64 m).toArray, .agg (I64 y).toArray] Z fun e w' => e = .returned (.agg (I64 P.cells).toArray) ∧ Below Z.heap.size Z w') := by unfold Hid; intro Z; rw [hPe]; exact spec6make m y Z km ky
     have hip := infoP' hP
     have hPl := E4.len hP
     have jq := infoE' km
     go_upto_region 16 with fail
     try simp only [Act.put]
     refine tame [kc 69 (.agg (I64 PL).toArray), kc 70 (.agg (I64 x).toArray), kc 71 (.agg (I64 m).toArray)] 3 (by kernel_rfl) (by kernel_rfl) (by kernel_rfl) (by repeat' first | exact trivial | apply kc_keeps | apply ka_keeps | constructor) 1 (by kernel_rfl) (fun vv3 ll3 hh3 yW b => ?_) (fun vv3 ll3 hh3 yW b F ivh aph => ?_)
     ·skip
      replace fr := fr.trans (b.mono fr.size)
      replace pr := pr.kept b
      replace Ay := Ay.kept b
      replace As := As.kept b
      replace Ax := Ax.kept b
      exact ⟨tc (HPR.out _) (by kernel_rfl),
       tl (arr_range Ax) iix hu (by kernel_rfl),
       tc (Htk.out _) (by kernel_rfl), trivial⟩
     obtain ⟨y15, hy⟩ : ∃ z, z = yW := ⟨_, rfl⟩
     rw [← hy] at b F ivh ⊢
     clear hy
     have oq : w.heap.size < y12.heap.size ∧ Xy < y12.heap.size ∧ Xs < y12.heap.size ∧ Xx < y12.heap.size ∧ w.heap.size ≤ y12.heap.size := ⟨pr.lt, Ay.lt, As.lt, Ax.lt, fr.size⟩
     replace fr := fr.trans (b.mono fr.size)
     replace pr := pr.kept b
     replace Ay := Ay.kept b
     replace As := As.kept b
     replace Ax := Ax.kept b
     clear F
     refine st_row (i := 3) (by kernel_rfl) rfl rfl rfl rfl Ax (by kernel_rfl) (by kernel_rfl) (by simp [nm, nx]) jm um ?_
     replace fr := bel_sc fr Xx (I64 m) (by omega)
     replace pr := pr.sc Xx (I64 m) (by omega)
     replace Ay := Ay.sc Xx (I64 m) (by omega)
     replace As := As.sc Xx (I64 m) (by omega)
     replace Ax := Ax.sc0 (I64 m) (by simp [nm, nx])
     obtain ⟨V16, hVe⟩ : ∃ V, V = y15.setCells Xx 0 (I64 m) := ⟨_, rfl⟩
     rw [← hVe] at fr pr Ay As Ax ⊢
     clear hVe
     refine wpAny_done (by kernel_rfl) ?_ _
     simp only [fillK, putT, List.setIfInBounds_toArray, List.set_cons_zero, List.set_cons_succ]
     clear ivh aph b oq
     have HPe : Hid (P = mk6 m y) := hPe
     clear hPe
     go_wp2_with (first
       | (refine wpList_load_row rfl 80 _ rfl Xx rfl 80 (I64 m).toArray (0, 0) _ Ax Tryz.underlying80 rfl jq ?_)
       | (refine wpList_load_row rfl 80 _ rfl Xy rfl 80 (I64 y).toArray (0, 0) _ Ay Tryz.underlying80 rfl jy ?_))
     refine (HM.out _).mono ?_
     rintro e y17 ⟨rfl, hb17⟩
     replace fr := fr.trans (hb17.mono fr.size)
     replace pr := pr.kept hb17
     replace Ay := Ay.kept hb17
     replace As := As.kept hb17
     replace Ax := Ax.kept hb17
     clear hb17
     have h2 := pr.row (I64 P.cells)
     have HB : Hid _ := setRow_below fr w.heap.size (I64 P.cells).toArray (by omega)
     go_wp2_with (refine wpList_store_row rfl 86 _ _ rfl w.heap.size (I64 P.cells).toArray rfl rfl 86 _ pr hip (by simp [hPl]) (by simp [Value.oneCell']) ?_)
     exact bodyPost_ret (results_row_tmp (v := .bool true) (cs := I64 P.cells) rfl rfl rfl h2 Tryz.underlying86 rfl hip) rfl ⟨by rw [hTt.out, hRt.out, HPe.out], HB.out⟩
    | true =>
     have h2 := pr.row (I64 Z64)
     have HB : Hid _ := setRow_below fr w.heap.size (I64 Z64).toArray (by omega)
     have hRf : Hid (r = false) := by unfold Hid; rw [HRX.out]; have h := Hzz.out; rw [← HX3.out, ← h]; rfl
     have hTf : Hid (T = Z64) := HT0.out hRf.out
     go_wp2_with (refine wpList_store_row rfl 86 _ _ rfl w.heap.size (I64 Z64).toArray rfl rfl 86 _ pr hz (by simp []) (by simp [Value.oneCell']) ?_)
     exact bodyPost_ret (results_row_tmp (v := .bool false) (cs := I64 Z64) rfl rfl rfl h2 Tryz.underlying86 rfl hz) rfl ⟨by rw [hTf.out, hRf.out], HB.out⟩

end Go.Proofs.YtihoaakbkffejaaGreatDoor

/-
  What is proved here: contracts of the specification's l6read and PtRead.
-/
import Derived.Test.YtoblilngppjmhaaDoorZHdm
import Derived.Test.YtoblilngppjmhaaDoorZUg
import Derived.Test.YtoblilngppjmhaaDoorZUi
import Derived.Test.YtoblilngppjmhaaDoorZJa
import Derived.Test.YtoblilngppjmhaaDoorZUl
import Derived.Test.YtoblilngppjmhaaDoorZHc
import Derived.Test.YtoblilngppjmhaaDoorZApp
import Derived.Test.YtoblilngppjmhaaDoorZJrd
namespace Go.Proofs.YtoblilngppjmhaaDoor
open Go.RowKit
set_option maxRecDepth 100000
abbrev qUt0 : Oper := { dst := none, op := Op.store 82 (Operand.tmp 9) (Operand.tmp 50), type := 0, pos := "l06_point.go:136", after := #[{ on := 10, ground := Ground.data }, { on := 9, ground := Ground.data }, { on := 9, ground := Ground.chain }, { on := 0, ground := Ground.phase }, { on := 1, ground := Ground.phase }, { on := 2, ground := Ground.phase }, { on := 3, ground := Ground.phase }, { on := 4, ground := Ground.phase }, { on := 5, ground := Ground.phase }, { on := 6, ground := Ground.phase }, { on := 7, ground := Ground.phase }, { on := 8, ground := Ground.phase }, { on := 9, ground := Ground.phase }, { on := 10, ground := Ground.phase }], guard := none }
abbrev qUt1 : Oper := { dst := none, op := Op.store 82 (Operand.tmp 10) (Operand.tmp 71), type := 0, pos := "l06_point.go:142", after := #[{ on := 2, ground := Ground.data }, { on := 2, ground := Ground.chain }, { on := 0, ground := Ground.phase }, { on := 1, ground := Ground.phase }, { on := 2, ground := Ground.phase }], guard := none }

/-- What l6read hands back. -/
def rdC (bs : List Int) : List Int := if rdOk6 bs = true then (mk6 (xR (yR bs) (odd6 bs)) (yR bs)).cells else Z64
theorem built_p60 (w : World) : (Instr.build 108 #[]).run Tryd.prog w = .ok (.agg (I64 Z64).toArray) w := by kernel_rfl
theorem bits_127 : ∀ t : Fin 256, bits .and .u8 ((t.val : Nat) : Int) 127 = ((t.val : Nat) : Int) % 128 := by decide
theorem and_127 {t : Int} (h0 : 0 ≤ t) (h1 : t < 256) : bits .and .u8 t 127 = t % 128 := by
 obtain ⟨n, rfl⟩ := Int.eq_ofNat_of_zero_le h0
 exact bits_127 ⟨n, by omega⟩

set_option maxHeartbeats 16000000 in
theorem spec6read (a : Option Addr) (n c : Nat) (bs : List Int) (w : World) (hx : Bs w a n c bs) :
  Calls Tryd.prog 99 #[.slice a n c] w fun e w' => e = .returned (.tuple #[.agg (I64 (rdC bs)).toArray, .bool (rdOk6 bs)]) ∧ Below w.heap.size w w' := by
 obtain ⟨T, hT⟩ : ∃ T, T = rdC bs := ⟨_, rfl⟩
 obtain ⟨r, hr⟩ : ∃ r, r = rdOk6 bs := ⟨_, rfl⟩
 have HT0 : Hid (r = false → T = Z64) := by unfold Hid; intro h; rw [hT]; unfold rdC; rw [← hr, h]; rfl
 have HT1 : Hid (r = true → T = (mk6 (xR (yR bs) (odd6 bs)) (yR bs)).cells) := by unfold Hid; intro h; rw [hT]; unfold rdC; rw [← hr, if_pos h]
 have HR : Hid (r = (decide (bs.length = 32) && decide (val (yR bs) < P25519) && okR (yR bs) (odd6 bs))) := hr
 rw [← hT, ← hr]
 clear hT hr
 have hz : (Tryd.prog.info? 108).map (·.size) = some (I64 Z64).toArray.size := infoP6
 have hbz := built_p60
 have hl := hx.2.1
 have hby := hx.2.2.2.1
 by_cases hn : n = 32
 rotate_left
 ·skip
  have hn1 : ((n : Int) != 32) = true := by simp; omega
  have hn2 : ¬ ((n : Int) = 32) := by omega
  obtain ⟨W, hW⟩ : ∃ W, W = w.alloc (.cells #[.int .i64 0, .int .i64 0, .int .i64 0, .int .i64 0, .int .i64 0, .int .i64 0, .int .i64 0, .int .i64 0, .int .i64 0, .int .i64 0, .int .i64 0, .int .i64 0, .int .i64 0, .int .i64 0, .int .i64 0, .int .i64 0, .int .i64 0, .int .i64 0, .int .i64 0, .int .i64 0, .int .i64 0, .int .i64 0, .int .i64 0, .int .i64 0, .int .i64 0, .int .i64 0, .int .i64 0, .int .i64 0, .int .i64 0, .int .i64 0, .int .i64 0, .int .i64 0, .int .i64 0, .int .i64 0, .int .i64 0, .int .i64 0, .int .i64 0, .int .i64 0, .int .i64 0, .int .i64 0, .int .i64 0, .int .i64 0, .int .i64 0, .int .i64 0, .int .i64 0, .int .i64 0, .int .i64 0, .int .i64 0, .int .i64 0, .int .i64 0, .int .i64 0, .int .i64 0, .int .i64 0, .int .i64 0, .int .i64 0, .int .i64 0, .int .i64 0, .int .i64 0, .int .i64 0, .int .i64 0, .int .i64 0, .int .i64 0, .int .i64 0, .int .i64 0] 108) := ⟨_, rfl⟩
  have fr : Below w.heap.size w W := by rw [hW]; exact ((Below.refl _ _).alloc (Nat.le_refl _) _)
  have pr : Arr W w.heap.size 108 (I64 Z64) := by
   rw [hW]
   have := Arr.new (w) (I64 Z64) 108
   exact this
  go_enter Tryd.func99, Tryd.ntmps99
  go_upto_region 1 with fail
  rw [← hW]
  clear hW
  have h2 := pr.row (I64 Z64)
  have HB : Hid _ := setRow_below fr w.heap.size (I64 Z64).toArray (by omega)
  have hRf : Hid (r = false) := by unfold Hid; rw [HR.out]; simp [show ¬ bs.length = 32 by omega]
  have hTf : Hid (T = Z64) := HT0.out hRf.out
  go_wp2_with (refine wpList_store_row rfl 108 _ _ rfl w.heap.size (I64 Z64).toArray rfl rfl 108 _ pr hz (by simp []) (by simp [Value.oneCell']) ?_)
  exact bodyPost_ret (results_row_tmp (v := .bool false) (cs := I64 Z64) rfl rfl rfl h2 Tryd.underlying108 rfl hz) rfl ⟨by rw [hTf.out, hRf.out], HB.out⟩
 subst hn
 obtain ⟨t, ht⟩ : ∃ t, t = bs.getD 31 0 := ⟨_, rfl⟩
 have ht0 := gD_u8 hby 31
 rw [← ht] at ht0
 obtain ⟨q, hq⟩ : ∃ q, q = t / 128 := ⟨_, rfl⟩
 have hq2 : q = 0 ∨ q = 1 := by omega
 have HQ : Hid (odd6 bs = q) := by unfold Hid odd6; rw [hq, ht]
 obtain ⟨lo, hlo⟩ : ∃ l, l = lowB bs := ⟨_, rfl⟩
 have HLO : Hid (bs.set 31 (t % 128) = lo) := by unfold Hid; rw [hlo, ht]; rfl
 have hlb : ∀ x ∈ lo, 0 ≤ x ∧ x < 256 := by rw [hlo]; exact lowB_byte hby
 obtain ⟨y, hy⟩ : ∃ y, y = yR bs := ⟨_, rfl⟩
 have ny : y.length = 16 := by rw [hy]; exact yR_len bs
 have ly : Lm y := by rw [hy]; exact yR_lm hby
 have jy : (Tryd.prog.info? 82).map (·.size) = some (I64 y).toArray.size := by simpa [ny] using infoE
 have iiy : (Tryd.prog.info? 82).map (·.size) = some (I64 y).length := by simpa [ny] using infoE
 have HRD : Hid (∀ (a : Option Addr) (c : Nat) (Z : World), Bs Z a 32 c lo → Calls Tryd.prog 131 #[.slice a 32 c] Z fun e w' => e = .returned (.agg (I64 y).toArray) ∧ Below Z.heap.size Z w') := by
  unfold Hid; intro a c Z h; rw [hy]; unfold yR; rw [← hlo]; exact specRead16 a c lo Z h
 have HPR : Hid (∀ Z, Calls Tryd.prog 128 #[] Z fun e w' => e = .returned (.agg (I64 PL).toArray) ∧ Below Z.heap.size Z w') := by unfold Hid; intro Z; exact specPrime Z
 obtain ⟨p, hp⟩ : ∃ p, p = decide (val y < P25519) := ⟨_, rfl⟩
 have HLS : Hid (∀ Z, Calls Tryd.prog 119 #[.agg (I64 y).toArray, .agg (I64 PL).toArray] Z fun e w' => e = .returned (.bool p) ∧ Below Z.heap.size Z w') := by
  unfold Hid; intro Z; have := specLess y PL Z ny PL_len ly PL_lm; rw [PL_val, ← hp] at this; exact this
 have HY : Hid (p = true → feOk y = true) := by unfold Hid; intro h; rw [hp] at h; exact (feOk_iff _).2 ⟨ny, ly, of_decide_eq_true h⟩
 have HRY : Hid (r = (p && okR y q)) := by unfold Hid; rw [HR.out, ← hy, HQ.out, ← hp, show decide (bs.length = 32) = true by simp [hl]]; rfl
 have HTY : Hid (r = true → T = (mk6 (xR y q) y).cells) := by unfold Hid; rw [hy, ← HQ.out]; exact HT1.out
 have hBS := hx
 obtain ⟨_, _, hc, _, hx⟩ := hx
 rcases hx with hx | ⟨b, o, rfl, hbs, hcell⟩
 ·omega
 have c31 : w.cell? ⟨b, o + 31, none⟩ = some (.int .u8 t) := by rw [ht]; exact hcell 31 (by omega)
 have ht2 : Hid (bs.getD 31 0 = t) := ht.symm
 clear HR HT1 HQ hy hlo hp ht hcell
 obtain ⟨W, hW⟩ : ∃ W, W = w.alloc (.cells #[.int .i64 0, .int .i64 0, .int .i64 0, .int .i64 0, .int .i64 0, .int .i64 0, .int .i64 0, .int .i64 0, .int .i64 0, .int .i64 0, .int .i64 0, .int .i64 0, .int .i64 0, .int .i64 0, .int .i64 0, .int .i64 0, .int .i64 0, .int .i64 0, .int .i64 0, .int .i64 0, .int .i64 0, .int .i64 0, .int .i64 0, .int .i64 0, .int .i64 0, .int .i64 0, .int .i64 0, .int .i64 0, .int .i64 0, .int .i64 0, .int .i64 0, .int .i64 0, .int .i64 0, .int .i64 0, .int .i64 0, .int .i64 0, .int .i64 0, .int .i64 0, .int .i64 0, .int .i64 0, .int .i64 0, .int .i64 0, .int .i64 0, .int .i64 0, .int .i64 0, .int .i64 0, .int .i64 0, .int .i64 0, .int .i64 0, .int .i64 0, .int .i64 0, .int .i64 0, .int .i64 0, .int .i64 0, .int .i64 0, .int .i64 0, .int .i64 0, .int .i64 0, .int .i64 0, .int .i64 0, .int .i64 0, .int .i64 0, .int .i64 0, .int .i64 0] 108) := ⟨_, rfl⟩
 have fr : Below w.heap.size w W := by rw [hW]; exact ((Below.refl _ _).alloc (Nat.le_refl _) _)
 have pr : Arr W w.heap.size 108 (I64 Z64) := by
  rw [hW]
  have := Arr.new (w) (I64 Z64) 108
  exact this
 go_enter Tryd.func99, Tryd.ntmps99
 go_upto_region 1 with fail
 rw [← hW]
 clear hW
 have c31 := (fr.cell (p := ⟨b, o + 31, none⟩) hbs).trans c31
 have hBS := hBS.below fr
 have hsh : t / 128 = q := hq.symm
 clear hq
 have hWsz : w.heap.size < W.heap.size := pr.lt
 go_upto_region 4 with fail
 have ow : (W.alloc (.cells #[] 5)).ownsRow W.heap.size 5 1 (.slice (some ⟨W.heap.size, 0, none⟩) 0 0) 0 (U8 []) := World.ownsRow_lit (base := W.heap.size) (e := 5) (size := 1) W #[] 0 (Nat.le_refl _) (by unfold maxLen; omega) rfl
 have bA : Below W.heap.size W (W.alloc (.cells #[] 5)) := (Below.refl _ _).alloc (Nat.le_refl _) _
 clear c31
 go_wp2_with (at_builtin; refine wpl_append_bs rfl _ _ rfl W.heap.size _ 0 [] rfl (some ⟨b, o, none⟩) 32 c bs rfl ow (hBS.below bA) (by omega) (by simp) ?_)
 intro v1 W1 ow1 gr1 hne1
 have bW : Below W.heap.size W W1 := bA.grown gr1 (by simp) (fun k hk => by cases hk; exact Nat.le_refl _)
 obtain ⟨g, cap, rfl, hgW⟩ : ∃ g cap, v1 = .slice (some ⟨g, 0, none⟩) 32 cap ∧ W.heap.size ≤ g := by
  rcases ow1.2 with ⟨hv, _⟩ | ⟨g, cap, cu, hv, hg, _⟩
  ·exact (hne1 hv).elim
  ·exact ⟨g, cap, hv, hg⟩
 clear hne1 gr1 ow bA hBS
 replace fr := fr.trans (bW.mono fr.size)
 replace pr := pr.kept bW
 clear bW
 have c31 : W1.cell? ⟨g, 31, none⟩ = some (.int .u8 t) := by rw [own_cell ow1 31 (by omega), ht2.out]
 have fz := ow1.frozenAt 31
 have hand := and_127 ht0.1 ht0.2
 have ow2 := own_at ow1 31 (.int .u8 (t % 128))
 rw [show (U8 bs).set 31 (.int .u8 (t % 128)) = U8 lo by rw [← HLO.out]; simp only [U8, List.map_set]] at ow2
 have hgr : w.heap.size < g := by have := hWsz; omega
 go_upto_region 6 with fail
 obtain ⟨W2, hW2⟩ : ∃ V, V = W1.setCell ⟨g, 31, none⟩ (.int .u8 (t % 128)) := ⟨_, rfl⟩
 rw [← hW2] at ow2 ⊢
 replace fr : Below w.heap.size w W2 := by rw [hW2]; exact fr.setCell (p := ⟨g, 31, none⟩) (by show w.heap.size ≤ g; omega) _
 replace pr : Arr W2 w.heap.size 108 (I64 Z64) := by rw [hW2]; exact pr.other ⟨g, 31, none⟩ _ (by show w.heap.size ≠ g; omega)
 clear hW2 c31 fz ow1
 have bl := bs_of_own ow2 hlb
 clear ow2
 go_wp2_with fail
 refine (HRD.out _ _ _ bl).mono ?_
 rintro e y1 ⟨rfl, hb1⟩
 replace fr := fr.trans (hb1.mono fr.size)
 replace pr := pr.kept hb1
 clear hb1 bl
 have hXy : w.heap.size < y1.heap.size ∧ w.heap.size ≤ y1.heap.size := ⟨pr.lt, fr.size⟩
 obtain ⟨bV, Ay, q1⟩ := laid_e y1 y
 replace fr := fr.trans (bV.mono fr.size)
 replace pr := pr.kept bV
 go_upto_region 7 with (refine wpList_store_row rfl 82 _ _ rfl y1.heap.size (I64 y).toArray rfl rfl 82 _ q1 jy (by simp [ny]) (by simp [Value.oneCell']) ?_)
 obtain ⟨V2, hVV⟩ : ∃ V, V = (y1.alloc (.cells #[.int .i64 0, .int .i64 0, .int .i64 0, .int .i64 0, .int .i64 0, .int .i64 0, .int .i64 0, .int .i64 0, .int .i64 0, .int .i64 0, .int .i64 0, .int .i64 0, .int .i64 0, .int .i64 0, .int .i64 0, .int .i64 0] 82)).setRow y1.heap.size (I64 y).toArray := ⟨_, rfl⟩
 obtain ⟨Xy, hE⟩ : ∃ E, E = y1.heap.size := ⟨_, rfl⟩
 rw [← hVV] at fr pr Ay ⊢
 rw [← hE] at Ay hXy ⊢
 clear hVV hE q1 bV
 have hu : Tryd.prog.underlying 82 = some (.array 16 3) := Tryd.underlying82
 try simp only [Act.put]
 have bD : Below V2.heap.size V2 V2.drew := (Below.refl _ _).drew
 replace fr := fr.trans (bD.mono fr.size)
 replace pr := pr.kept bD
 replace Ay := Ay.kept bD
 clear bD
 refine wp_region_held_drew (S := fun W => W.rangeAt Xy 0 (I64 y)) (by kernel_rfl) (arr_range Ay) (fun hHeld => ?_)
 obtain ⟨D3, hD⟩ : ∃ V, V = V2.drew := ⟨_, rfl⟩
 rw [← hD] at hHeld fr pr Ay ⊢
 clear hD
 refine wpAnyH_take (i := 0) (oi := { dst := some 32, op := Op.load 82 (Operand.tmp 6), type := 82, pos := "l06_point.go:130", after := #[], guard := none }) (v := _) rfl (by kernel_rfl) (by kernel_rfl) (by kernel_rfl) (fun _ _ _ h => h) (yieldsIf_load_mid (by rfl) _ _ rfl _ _ rfl (I64 y) _ (fun _ h => h) hu rfl iiy) (by assumption) ?_
 simp only [Act.put, List.setIfInBounds_toArray, List.set_cons_zero, List.set_cons_succ]
 refine wpAnyH_ready (rs := [1]) (by kernel_rfl) (by simp) (AllReadyH.cons (o := { dst := some 33, op := Op.call { callee := Callee.value (Operand.func 128), args := #[], argTypes := #[] }, type := 82, pos := "l06_point.go:130", after := #[], guard := none }) rfl (fun K hK => ?_) AllReadyH.nil)
 go_simp
 refine (HPR.out _).mono ?_
 rintro e y4 ⟨rfl, hb4⟩
 replace fr := fr.trans (hb4.mono fr.size)
 replace pr := pr.kept hb4
 replace Ay := Ay.kept hb4
 clear hb4
 go_wp2_with fail
 refine hK.out _ _ (arr_range Ay) (fun hHeld => ?_)
 clear hK K
 refine wpAnyH_ready (rs := [2]) (by kernel_rfl) (by simp) (AllReadyH.cons (o := { dst := some 34, op := Op.call { callee := Callee.value (Operand.func 119), args := #[Operand.tmp 32, Operand.tmp 33], argTypes := #[82, 82] }, type := 4, pos := "l06_point.go:130", after := #[{ on := 0, ground := Ground.data }, { on := 1, ground := Ground.data }, { on := 1, ground := Ground.chain }], guard := none }) rfl (fun K hK => ?_) AllReadyH.nil)
 go_simp
 refine (HLS.out _).mono ?_
 rintro e y5 ⟨rfl, hb5⟩
 replace fr := fr.trans (hb5.mono fr.size)
 replace pr := pr.kept hb5
 replace Ay := Ay.kept hb5
 clear hb5
 go_wp2_with fail
 refine hK.out _ _ (arr_range Ay) (fun hHeld => ?_)
 clear hK K
 refine wpAnyH_take (i := 3) (oi := { dst := some 35, op := Op.unOp UnOp.not 4 (Operand.tmp 34), type := 4, pos := "l06_point.go:130", after := #[{ on := 2, ground := Ground.data }], guard := none }) (v := .bool (!p)) rfl (by kernel_rfl) (by kernel_rfl) (by kernel_rfl) (fun _ _ _ h => h) (.inl ⟨by rfl, fun _ _ => by rfl⟩) (by assumption) ?_
 simp only [Act.put, List.setIfInBounds_toArray, List.set_cons_zero, List.set_cons_succ]
 refine wpAnyH_done (by kernel_rfl) ?_ _
 cases p with
 | false =>
  have h2 := pr.row (I64 Z64)
  have HB : Hid _ := setRow_below fr w.heap.size (I64 Z64).toArray (by omega)
  have hRf : Hid (r = false) := by unfold Hid; rw [HRY.out]; rfl
  have hTf : Hid (T = Z64) := HT0.out hRf.out
  go_wp2_with (refine wpList_store_row rfl 108 _ _ rfl w.heap.size (I64 Z64).toArray rfl rfl 108 _ pr hz (by simp []) (by simp [Value.oneCell']) ?_)
  exact bodyPost_ret (results_row_tmp (v := .bool false) (cs := I64 Z64) rfl rfl rfl h2 Tryd.underlying108 rfl hz) rfl ⟨by rw [hTf.out, hRf.out], HB.out⟩
 | true =>
  have ky := HY.out (by simp)
  obtain ⟨yy, eyy⟩ : ∃ x_, x_ = red (val y * val y) := ⟨_, rfl⟩
  have kyy : feOk yy = true := by rw [eyy]; exact ok_red _
  obtain ⟨on, eon⟩ : ∃ x_, x_ = lim 16 1 := ⟨_, rfl⟩
  have kon : feOk on = true := by rw [eon]; exact one_ok
  obtain ⟨ov, eov⟩ : ∃ x_, x_ = ovr y := ⟨_, rfl⟩
  have kov : feOk ov = true := by rw [eov]; exact ok_red _
  obtain ⟨dy, edy⟩ : ∃ x_, x_ = red (val DL * val yy) := ⟨_, rfl⟩
  have kdy : feOk dy = true := by rw [edy]; exact ok_red _
  obtain ⟨un, eun⟩ : ∃ x_, x_ = und y := ⟨_, rfl⟩
  have kun : feOk un = true := by rw [eun]; exact ok_red _
  obtain ⟨iv, eiv⟩ : ∃ x_, x_ = invF un := ⟨_, rfl⟩
  have kiv : feOk iv = true := by rw [eiv]; exact inv_ok _
  obtain ⟨s, es⟩ : ∃ x_, x_ = sqx y := ⟨_, rfl⟩
  have ks : feOk s = true := by rw [es]; exact ok_red _
  have Hyy : Hid (∀ Z, Calls Tryd.prog 109 #[.agg (I64 y).toArray, .agg (I64 y).toArray] Z fun e w' => e = .returned (.agg (I64 yy).toArray) ∧ Below Z.heap.size Z w') := by
   unfold Hid; intro Z; rw [eyy]; exact mulC ky ky Z
  have Hon : Hid (∀ Z, Calls Tryd.prog 112 #[.int .i64 1] Z fun e w' => e = .returned (.agg (I64 on).toArray) ∧ Below Z.heap.size Z w') := by unfold Hid; intro Z; rw [eon]; exact specSmall 1 Z (by omega) (by omega)
  have eov2 : ov = red (val yy - val on) := by rw [eov, eyy, eon]; rfl
  have eun2 : un = red (val dy + val on) := by rw [eun, edy, eyy, eon]; rfl
  have es2 : s = red (val ov * val iv) := by rw [es, eov, eiv, eun]; rfl
  have Hov : Hid (∀ Z, Calls Tryd.prog 110 #[.agg (I64 yy).toArray, .agg (I64 on).toArray] Z fun e w' => e = .returned (.agg (I64 ov).toArray) ∧ Below Z.heap.size Z w') := by
   unfold Hid; intro Z; rw [eov2]; exact subC kyy kon Z
  have Hd : Hid (∀ Z, Calls Tryd.prog 113 #[] Z fun e w' => e = .returned (.agg (I64 DL).toArray) ∧ Below Z.heap.size Z w') := by unfold Hid; intro Z; exact spec6d Z
  have Hdy : Hid (∀ Z, Calls Tryd.prog 109 #[.agg (I64 DL).toArray, .agg (I64 yy).toArray] Z fun e w' => e = .returned (.agg (I64 dy).toArray) ∧ Below Z.heap.size Z w') := by
   unfold Hid; intro Z; rw [edy]; exact mulC DL_ok kyy Z
  have Hun : Hid (∀ Z, Calls Tryd.prog 111 #[.agg (I64 dy).toArray, .agg (I64 on).toArray] Z fun e w' => e = .returned (.agg (I64 un).toArray) ∧ Below Z.heap.size Z w') := by
   unfold Hid; intro Z; rw [eun2]; exact addC kdy kon Z
  have Hiv : Hid (∀ Z, Calls Tryd.prog 132 #[.agg (I64 un).toArray] Z fun e w' => e = .returned (.agg (I64 iv).toArray) ∧ Below Z.heap.size Z w') := by unfold Hid; intro Z; rw [eiv]; exact specInv un Z (feOk_len kun) (feOk_lm' kun)
  have Hs : Hid (∀ Z, Calls Tryd.prog 109 #[.agg (I64 ov).toArray, .agg (I64 iv).toArray] Z fun e w' => e = .returned (.agg (I64 s).toArray) ∧ Below Z.heap.size Z w') := by
   unfold Hid; intro Z; rw [es2]; exact mulC kov kiv Z
  obtain ⟨x, ex⟩ : ∃ x, x = rtR s := ⟨_, rfl⟩
  obtain ⟨ok, eok⟩ : ∃ b, b = rtOk s := ⟨_, rfl⟩
  have Hrt : Hid (∀ Z, Calls Tryd.prog 133 #[.agg (I64 s).toArray] Z fun e w' => e = .returned (.tuple #[.agg (I64 x).toArray, .bool ok]) ∧ Below Z.heap.size Z w') := by unfold Hid; intro Z; rw [ex, eok]; exact specRoot16 s Z (feOk_len ks) (feOk_lm' ks)
  have nx : x.length = 16 := by rw [ex]; exact rtR_len s
  have jx : (Tryd.prog.info? 82).map (·.size) = some (I64 x).toArray.size := by simpa [nx] using infoE
  have iix : (Tryd.prog.info? 82).map (·.size) = some (I64 x).length := by simpa [nx] using infoE
  obtain ⟨zz, ezz⟩ : ∃ b, b = decide (x = Z16) := ⟨_, rfl⟩
  have Hze : Hid (∀ Z, Calls Tryd.prog 134 #[.agg (I64 x).toArray] Z fun e w' => e = .returned (.bool zz) ∧ Below Z.heap.size Z w') := by unfold Hid; intro Z; rw [ezz]; exact specZero x Z nx
  have HX : Hid (ok = true → x = rt3 s ∧ feOk x = true) := by
   unfold Hid; intro h; rw [eok] at h
   have h9 : x = rt3 s := by rw [ex]; unfold rtR; rw [if_pos h]
   exact ⟨h9, by rw [h9]; exact (rt3_fe s).1⟩
  have HRX : Hid (r = (ok && !(decide (rt3 s = Z16) && decide (q = 1)))) := by unfold Hid; rw [HRY.out, eok, es]; rfl
  have HTX : Hid (r = true → T = (mk6 (if q = 1 then tk16 PL (rt3 s) else rt3 s) y).cells) := by unfold Hid; intro h; rw [HTY.out h, es]; rfl
  have Hzz : Hid (zz = decide (x = Z16)) := ezz
  clear ex eok ezz
  have jyy := infoE' kyy
  have iiyy := infoEl kyy
  have nyy := feOk_len kyy
  have uyy := one_lm yy
  have jon := infoE' kon
  have iion := infoEl kon
  have non := feOk_len kon
  have uon := one_lm on
  have js := infoE' ks
  have iis := infoEl ks
  have ns := feOk_len ks
  have us := one_lm s
  have hu : Tryd.prog.underlying 82 = some (.array 16 3) := Tryd.underlying82
  clear eov2 eun2 es2 eyy kyy eon kon eov kov edy kdy eun kun eiv kiv es ks HRY HTY HY
  go_wp2_with (refine wpList_load_row rfl 82 _ rfl Xy rfl 82 (I64 y).toArray (0, 0) _ Ay Tryd.underlying82 rfl jy ?_)
  refine (Hyy.out _).mono ?_
  rintro e y6 ⟨rfl, hb6⟩
  replace fr := fr.trans (hb6.mono fr.size)
  replace pr := pr.kept hb6
  replace Ay := Ay.kept hb6
  clear hb6
  have hXyy : w.heap.size < y6.heap.size ∧ Xy < y6.heap.size ∧ w.heap.size ≤ y6.heap.size := ⟨pr.lt, Ay.lt, fr.size⟩
  obtain ⟨bV, Ayy, q1⟩ := laid_e y6 yy
  replace fr := fr.trans (bV.mono fr.size)
  replace pr := pr.kept bV
  replace Ay := Ay.kept bV
  go_upto_region 10 with (refine wpList_store_row rfl 82 _ _ rfl y6.heap.size (I64 yy).toArray rfl rfl 82 _ q1 jyy (by simp [nyy]) (by simp [Value.oneCell']) ?_)
  obtain ⟨V7, hVV⟩ : ∃ V, V = (y6.alloc (.cells #[.int .i64 0, .int .i64 0, .int .i64 0, .int .i64 0, .int .i64 0, .int .i64 0, .int .i64 0, .int .i64 0, .int .i64 0, .int .i64 0, .int .i64 0, .int .i64 0, .int .i64 0, .int .i64 0, .int .i64 0, .int .i64 0] 82)).setRow y6.heap.size (I64 yy).toArray := ⟨_, rfl⟩
  obtain ⟨Xyy, hE⟩ : ∃ E, E = y6.heap.size := ⟨_, rfl⟩
  rw [← hVV] at fr pr Ay Ayy ⊢
  rw [← hE] at Ayy hXyy ⊢
  clear hVV hE q1 bV
  go_wp2_with fail
  refine (Hon.out _).mono ?_
  rintro e y8 ⟨rfl, hb8⟩
  replace fr := fr.trans (hb8.mono fr.size)
  replace pr := pr.kept hb8
  replace Ay := Ay.kept hb8
  replace Ayy := Ayy.kept hb8
  clear hb8
  have hXon : w.heap.size < y8.heap.size ∧ Xy < y8.heap.size ∧ Xyy < y8.heap.size ∧ w.heap.size ≤ y8.heap.size := ⟨pr.lt, Ay.lt, Ayy.lt, fr.size⟩
  obtain ⟨bV, Aon, q1⟩ := laid_e y8 on
  replace fr := fr.trans (bV.mono fr.size)
  replace pr := pr.kept bV
  replace Ay := Ay.kept bV
  replace Ayy := Ayy.kept bV
  go_upto_region 11 with (refine wpList_store_row rfl 82 _ _ rfl y8.heap.size (I64 on).toArray rfl rfl 82 _ q1 jon (by simp [non]) (by simp [Value.oneCell']) ?_)
  obtain ⟨V9, hVV⟩ : ∃ V, V = (y8.alloc (.cells #[.int .i64 0, .int .i64 0, .int .i64 0, .int .i64 0, .int .i64 0, .int .i64 0, .int .i64 0, .int .i64 0, .int .i64 0, .int .i64 0, .int .i64 0, .int .i64 0, .int .i64 0, .int .i64 0, .int .i64 0, .int .i64 0] 82)).setRow y8.heap.size (I64 on).toArray := ⟨_, rfl⟩
  obtain ⟨Xon, hE⟩ : ∃ E, E = y8.heap.size := ⟨_, rfl⟩
  rw [← hVV] at fr pr Ay Ayy Aon ⊢
  rw [← hE] at Aon hXon ⊢
  clear hVV hE q1 bV
  try simp only [Act.put]
  go_cut [9] from 12 (fun s9 wc => ∃ (Xs : Nat), s9 = .pointer (some ⟨Xs, 0, none⟩) ∧ Arr wc Xs 82 (I64 s) ∧ Below w.heap.size w wc ∧ Arr wc w.heap.size 108 (I64 Z64) ∧ Arr wc Xy 82 (I64 y) ∧ Arr wc Xyy 82 (I64 yy) ∧ Arr wc Xon 82 (I64 on) ∧ w.heap.size < Xy ∧ w.heap.size < Xs)
  case first =>
   have bD : Below V9.heap.size V9 V9.drew := (Below.refl _ _).drew
   replace fr := fr.trans (bD.mono fr.size)
   replace pr := pr.kept bD
   replace Ay := Ay.kept bD
   replace Ayy := Ayy.kept bD
   replace Aon := Aon.kept bD
   clear bD
   refine wp_region_held_drew (S := fun W => W.rangeAt Xyy 0 (I64 yy) ∧ W.rangeAt Xon 0 (I64 on)) (by kernel_rfl) ⟨arr_range Ayy, arr_range Aon⟩ (fun hHeld => ?_)
   obtain ⟨D10, hD⟩ : ∃ V, V = V9.drew := ⟨_, rfl⟩
   rw [← hD] at hHeld fr pr Ay Ayy Aon ⊢
   clear hD
   refine wpAnyH_take (i := 0) (oi := { dst := some 41, op := Op.load 82 (Operand.tmp 7), type := 82, pos := "l06_point.go:136", after := #[], guard := none }) (v := _) rfl (by kernel_rfl) (by kernel_rfl) (by kernel_rfl) (fun _ _ _ h => h) (yieldsIf_load_mid (by rfl) _ _ rfl _ _ rfl (I64 yy) _ (fun _ h => h.1) hu rfl iiyy) (by assumption) ?_
   simp only [Act.put, List.setIfInBounds_toArray, List.set_cons_zero, List.set_cons_succ]
   refine wpAnyH_take (i := 1) (oi := { dst := some 42, op := Op.load 82 (Operand.tmp 8), type := 82, pos := "l06_point.go:136", after := #[], guard := none }) (v := _) rfl (by kernel_rfl) (by kernel_rfl) (by kernel_rfl) (fun _ _ _ h => h) (yieldsIf_load_mid (by rfl) _ _ rfl _ _ rfl (I64 on) _ (fun _ h => h.2) hu rfl iion) (by assumption) ?_
   simp only [Act.put, List.setIfInBounds_toArray, List.set_cons_zero, List.set_cons_succ]
   refine wpAnyH_take (i := 4) (oi := { dst := some 45, op := Op.load 82 (Operand.tmp 7), type := 82, pos := "l06_point.go:136", after := #[], guard := none }) (v := _) rfl (by kernel_rfl) (by kernel_rfl) (by kernel_rfl) (fun _ _ _ h => h) (yieldsIf_load_mid (by rfl) _ _ rfl _ _ rfl (I64 yy) _ (fun _ h => h.1) hu rfl iiyy) (by assumption) ?_
   simp only [Act.put, List.setIfInBounds_toArray, List.set_cons_zero, List.set_cons_succ]
   refine wpAnyH_take (i := 6) (oi := { dst := some 47, op := Op.load 82 (Operand.tmp 8), type := 82, pos := "l06_point.go:136", after := #[], guard := none }) (v := _) rfl (by kernel_rfl) (by kernel_rfl) (by kernel_rfl) (fun _ _ _ h => h) (yieldsIf_load_mid (by rfl) _ _ rfl _ _ rfl (I64 on) _ (fun _ h => h.2) hu rfl iion) (by assumption) ?_
   simp only [Act.put, List.setIfInBounds_toArray, List.set_cons_zero, List.set_cons_succ]
   refine wpAnyH_ready (rs := [2, 10]) (by kernel_rfl) (by simp) (AllReadyH.cons (o := { dst := some 43, op := Op.call { callee := Callee.value (Operand.func 110), args := #[Operand.tmp 41, Operand.tmp 42], argTypes := #[82, 82] }, type := 82, pos := "l06_point.go:136", after := #[{ on := 0, ground := Ground.data }, { on := 1, ground := Ground.data }], guard := none }) rfl (fun K hK => ?_) (AllReadyH.cons (o := { dst := some 9, op := Op.alloc 82, type := 0, pos := "l06_point.go:136", after := #[], guard := none }) rfl (fun K hK => ?_) AllReadyH.nil))
   ·skip
    go_simp
    refine (Hov.out _).mono ?_
    rintro e y11 ⟨rfl, hb11⟩
    replace fr := fr.trans (hb11.mono fr.size)
    replace pr := pr.kept hb11
    replace Ay := Ay.kept hb11
    replace Ayy := Ayy.kept hb11
    replace Aon := Aon.kept hb11
    clear hb11
    go_wp2_with fail
    refine hK.out _ _ ⟨arr_range Ayy, arr_range Aon⟩ (fun hHeld => ?_)
    clear hK K
    refine wpAnyH_ready (rs := [3, 10]) (by kernel_rfl) (by simp) (AllReadyH.cons (o := { dst := some 44, op := Op.call { callee := Callee.value (Operand.func 113), args := #[], argTypes := #[] }, type := 82, pos := "l06_point.go:136", after := #[{ on := 2, ground := Ground.chain }], guard := none }) rfl (fun K hK => ?_) (AllReadyH.cons (o := { dst := some 9, op := Op.alloc 82, type := 0, pos := "l06_point.go:136", after := #[], guard := none }) rfl (fun K hK => ?_) AllReadyH.nil))
    ·skip
     go_simp
     refine (Hd.out _).mono ?_
     rintro e y12 ⟨rfl, hb12⟩
     replace fr := fr.trans (hb12.mono fr.size)
     replace pr := pr.kept hb12
     replace Ay := Ay.kept hb12
     replace Ayy := Ayy.kept hb12
     replace Aon := Aon.kept hb12
     clear hb12
     go_wp2_with fail
     refine hK.out _ _ ⟨arr_range Ayy, arr_range Aon⟩ (fun hHeld => ?_)
     clear hK K
     refine wpAnyH_ready (rs := [5, 10]) (by kernel_rfl) (by simp) (AllReadyH.cons (o := { dst := some 46, op := Op.call { callee := Callee.value (Operand.func 109), args := #[Operand.tmp 44, Operand.tmp 45], argTypes := #[82, 82] }, type := 82, pos := "l06_point.go:136", after := #[{ on := 3, ground := Ground.data }, { on := 4, ground := Ground.data }, { on := 3, ground := Ground.chain }], guard := none }) rfl (fun K hK => ?_) (AllReadyH.cons (o := { dst := some 9, op := Op.alloc 82, type := 0, pos := "l06_point.go:136", after := #[], guard := none }) rfl (fun K hK => ?_) AllReadyH.nil))
     ·skip
      go_simp
      refine (Hdy.out _).mono ?_
      rintro e y13 ⟨rfl, hb13⟩
      replace fr := fr.trans (hb13.mono fr.size)
      replace pr := pr.kept hb13
      replace Ay := Ay.kept hb13
      replace Ayy := Ayy.kept hb13
      replace Aon := Aon.kept hb13
      clear hb13
      go_wp2_with fail
      refine hK.out _ _ ⟨arr_range Ayy, arr_range Aon⟩ (fun hHeld => ?_)
      clear hK K
      refine wpAnyH_ready (rs := [7, 10]) (by kernel_rfl) (by simp) (AllReadyH.cons (o := { dst := some 48, op := Op.call { callee := Callee.value (Operand.func 111), args := #[Operand.tmp 46, Operand.tmp 47], argTypes := #[82, 82] }, type := 82, pos := "l06_point.go:136", after := #[{ on := 5, ground := Ground.data }, { on := 6, ground := Ground.data }, { on := 5, ground := Ground.chain }], guard := none }) rfl (fun K hK => ?_) (AllReadyH.cons (o := { dst := some 9, op := Op.alloc 82, type := 0, pos := "l06_point.go:136", after := #[], guard := none }) rfl (fun K hK => ?_) AllReadyH.nil))
      ·skip
       go_simp
       refine (Hun.out _).mono ?_
       rintro e y14 ⟨rfl, hb14⟩
       replace fr := fr.trans (hb14.mono fr.size)
       replace pr := pr.kept hb14
       replace Ay := Ay.kept hb14
       replace Ayy := Ayy.kept hb14
       replace Aon := Aon.kept hb14
       clear hb14
       go_wp2_with fail
       refine hK.out _ _ ⟨arr_range Ayy, arr_range Aon⟩ (fun hHeld => ?_)
       clear hK K
       refine wpAnyH_ready (rs := [8, 10]) (by kernel_rfl) (by simp) (AllReadyH.cons (o := { dst := some 49, op := Op.call { callee := Callee.value (Operand.func 132), args := #[Operand.tmp 48], argTypes := #[82] }, type := 82, pos := "l06_point.go:136", after := #[{ on := 7, ground := Ground.data }, { on := 7, ground := Ground.chain }], guard := none }) rfl (fun K hK => ?_) (AllReadyH.cons (o := { dst := some 9, op := Op.alloc 82, type := 0, pos := "l06_point.go:136", after := #[], guard := none }) rfl (fun K hK => ?_) AllReadyH.nil))
       ·skip
        go_simp
        refine (Hiv.out _).mono ?_
        rintro e y15 ⟨rfl, hb15⟩
        replace fr := fr.trans (hb15.mono fr.size)
        replace pr := pr.kept hb15
        replace Ay := Ay.kept hb15
        replace Ayy := Ayy.kept hb15
        replace Aon := Aon.kept hb15
        clear hb15
        go_wp2_with fail
        refine hK.out _ _ ⟨arr_range Ayy, arr_range Aon⟩ (fun hHeld => ?_)
        clear hK K
        refine wpAnyH_ready (rs := [9, 10]) (by kernel_rfl) (by simp) (AllReadyH.cons (o := { dst := some 50, op := Op.call { callee := Callee.value (Operand.func 109), args := #[Operand.tmp 43, Operand.tmp 49], argTypes := #[82, 82] }, type := 82, pos := "l06_point.go:136", after := #[{ on := 2, ground := Ground.data }, { on := 8, ground := Ground.data }, { on := 8, ground := Ground.chain }], guard := none }) rfl (fun K hK => ?_) (AllReadyH.cons (o := { dst := some 9, op := Op.alloc 82, type := 0, pos := "l06_point.go:136", after := #[], guard := none }) rfl (fun K hK => ?_) AllReadyH.nil))
        ·skip
         go_simp
         refine (Hs.out _).mono ?_
         rintro e y16 ⟨rfl, hb16⟩
         replace fr := fr.trans (hb16.mono fr.size)
         replace pr := pr.kept hb16
         replace Ay := Ay.kept hb16
         replace Ayy := Ayy.kept hb16
         replace Aon := Aon.kept hb16
         clear hb16
         go_wp2_with fail
         refine hK.out _ _ ⟨arr_range Ayy, arr_range Aon⟩ (fun hHeld => ?_)
         clear hK K
         refine wpAnyH_ready (rs := [10]) (by kernel_rfl) (by simp) (AllReadyH.cons (o := { dst := some 9, op := Op.alloc 82, type := 0, pos := "l06_point.go:136", after := #[], guard := none }) rfl (fun K hK => ?_) AllReadyH.nil)
         go_simp
         obtain ⟨V17, hVe⟩ : ∃ V, V = y16.alloc (.cells #[.int .i64 0, .int .i64 0, .int .i64 0, .int .i64 0, .int .i64 0, .int .i64 0, .int .i64 0, .int .i64 0, .int .i64 0, .int .i64 0, .int .i64 0, .int .i64 0, .int .i64 0, .int .i64 0, .int .i64 0, .int .i64 0] 82) := ⟨_, rfl⟩
         have bV : Below y16.heap.size y16 V17 := by rw [hVe]; exact (Below.refl _ _).alloc (Nat.le_refl _) _
         have As : Arr V17 y16.heap.size 82 (I64 Z16) := by rw [hVe]; exact Arr.new _ (I64 Z16) _
         have hXs : w.heap.size < y16.heap.size ∧ Xy < y16.heap.size ∧ Xyy < y16.heap.size ∧ Xon < y16.heap.size ∧ True := ⟨pr.lt, Ay.lt, Ayy.lt, Aon.lt, trivial⟩
         obtain ⟨Xs, hXe⟩ : ∃ X, X = y16.heap.size := ⟨_, rfl⟩
         replace fr := fr.trans (bV.mono fr.size)
         replace pr := pr.kept bV
         replace Ay := Ay.kept bV
         replace Ayy := Ayy.kept bV
         replace Aon := Aon.kept bV
         rw [← hVe]
         rw [← hXe] at As hXs ⊢
         clear hVe hXe bV
         refine hK.out _ _ ⟨arr_range Ayy, arr_range Aon⟩ (fun hHeld => ?_)
         clear hK K
         refine wpAnyH_ready (rs := [11]) (by kernel_rfl) (by simp) (AllReadyH.cons (o := qUt0) rfl (fun K hK => ?_) AllReadyH.nil)
         rw [if_pos (by rfl)]
         refine wp_store_mid _ _ _ rfl _ _ (I64 s).toArray rfl rfl (by have := arr_there As; simpa [ns] using this) js (all_oneCell_toArray us) ?_
         simp only [Act.put]
         obtain ⟨V18, hVe⟩ : ∃ V, V = V17.setCells Xs 0 (I64 s) := ⟨_, rfl⟩
         rw [← hVe]
         replace fr : Below w.heap.size w V18 := by rw [hVe]; exact setCells_below (by omega) _ _ fr
         replace pr : Arr V18 w.heap.size 108 (I64 Z64) := by rw [hVe]; exact Arr.setCellsO (by omega) _ _ pr
         replace Ay : Arr V18 Xy 82 (I64 y) := by rw [hVe]; exact Arr.setCellsO (by omega) _ _ Ay
         replace Ayy : Arr V18 Xyy 82 (I64 yy) := by rw [hVe]; exact Arr.setCellsO (by omega) _ _ Ayy
         replace Aon : Arr V18 Xon 82 (I64 on) := by rw [hVe]; exact Arr.setCellsO (by omega) _ _ Aon
         replace As : Arr V18 Xs 82 (I64 s) := by rw [hVe]; exact Arr.setCells0 As (by simp [ns])
         clear hVe
         refine hK.out _ _ ⟨arr_range Ayy, arr_range Aon⟩ (fun hHeld => ?_)
         clear hK K
         refine wpAnyH_done (by kernel_rfl) ?_ _
         go_wp2
         go_meet
         case rel => exact ⟨Xs, rfl, As, fr, pr, Ay, Ayy, Aon, (by omega), (by omega)⟩
        ·skip
         go_simp
         obtain ⟨V19, hVe⟩ : ∃ V, V = y15.alloc (.cells #[.int .i64 0, .int .i64 0, .int .i64 0, .int .i64 0, .int .i64 0, .int .i64 0, .int .i64 0, .int .i64 0, .int .i64 0, .int .i64 0, .int .i64 0, .int .i64 0, .int .i64 0, .int .i64 0, .int .i64 0, .int .i64 0] 82) := ⟨_, rfl⟩
         have bV : Below y15.heap.size y15 V19 := by rw [hVe]; exact (Below.refl _ _).alloc (Nat.le_refl _) _
         have As : Arr V19 y15.heap.size 82 (I64 Z16) := by rw [hVe]; exact Arr.new _ (I64 Z16) _
         have hXs : w.heap.size < y15.heap.size ∧ Xy < y15.heap.size ∧ Xyy < y15.heap.size ∧ Xon < y15.heap.size ∧ True := ⟨pr.lt, Ay.lt, Ayy.lt, Aon.lt, trivial⟩
         obtain ⟨Xs, hXe⟩ : ∃ X, X = y15.heap.size := ⟨_, rfl⟩
         replace fr := fr.trans (bV.mono fr.size)
         replace pr := pr.kept bV
         replace Ay := Ay.kept bV
         replace Ayy := Ayy.kept bV
         replace Aon := Aon.kept bV
         rw [← hVe]
         rw [← hXe] at As hXs ⊢
         clear hVe hXe bV
         refine hK.out _ _ ⟨arr_range Ayy, arr_range Aon⟩ (fun hHeld => ?_)
         clear hK K
         refine wpAnyH_ready (rs := [9]) (by kernel_rfl) (by simp) (AllReadyH.cons (o := { dst := some 50, op := Op.call { callee := Callee.value (Operand.func 109), args := #[Operand.tmp 43, Operand.tmp 49], argTypes := #[82, 82] }, type := 82, pos := "l06_point.go:136", after := #[{ on := 2, ground := Ground.data }, { on := 8, ground := Ground.data }, { on := 8, ground := Ground.chain }], guard := none }) rfl (fun K hK => ?_) AllReadyH.nil)
         go_simp
         refine (Hs.out _).mono ?_
         rintro e y20 ⟨rfl, hb20⟩
         replace fr := fr.trans (hb20.mono fr.size)
         replace pr := pr.kept hb20
         replace Ay := Ay.kept hb20
         replace Ayy := Ayy.kept hb20
         replace Aon := Aon.kept hb20
         replace As := As.kept hb20
         clear hb20
         go_wp2_with fail
         refine hK.out _ _ ⟨arr_range Ayy, arr_range Aon⟩ (fun hHeld => ?_)
         clear hK K
         refine wpAnyH_ready (rs := [11]) (by kernel_rfl) (by simp) (AllReadyH.cons (o := qUt0) rfl (fun K hK => ?_) AllReadyH.nil)
         rw [if_pos (by rfl)]
         refine wp_store_mid _ _ _ rfl _ _ (I64 s).toArray rfl rfl (by have := arr_there As; simpa [ns] using this) js (all_oneCell_toArray us) ?_
         simp only [Act.put]
         obtain ⟨V21, hVe⟩ : ∃ V, V = y20.setCells Xs 0 (I64 s) := ⟨_, rfl⟩
         rw [← hVe]
         replace fr : Below w.heap.size w V21 := by rw [hVe]; exact setCells_below (by omega) _ _ fr
         replace pr : Arr V21 w.heap.size 108 (I64 Z64) := by rw [hVe]; exact Arr.setCellsO (by omega) _ _ pr
         replace Ay : Arr V21 Xy 82 (I64 y) := by rw [hVe]; exact Arr.setCellsO (by omega) _ _ Ay
         replace Ayy : Arr V21 Xyy 82 (I64 yy) := by rw [hVe]; exact Arr.setCellsO (by omega) _ _ Ayy
         replace Aon : Arr V21 Xon 82 (I64 on) := by rw [hVe]; exact Arr.setCellsO (by omega) _ _ Aon
         replace As : Arr V21 Xs 82 (I64 s) := by rw [hVe]; exact Arr.setCells0 As (by simp [ns])
         clear hVe
         refine hK.out _ _ ⟨arr_range Ayy, arr_range Aon⟩ (fun hHeld => ?_)
         clear hK K
         refine wpAnyH_done (by kernel_rfl) ?_ _
         go_wp2
         go_meet
         case rel => exact ⟨Xs, rfl, As, fr, pr, Ay, Ayy, Aon, (by omega), (by omega)⟩
       ·skip
        go_simp
        obtain ⟨V22, hVe⟩ : ∃ V, V = y14.alloc (.cells #[.int .i64 0, .int .i64 0, .int .i64 0, .int .i64 0, .int .i64 0, .int .i64 0, .int .i64 0, .int .i64 0, .int .i64 0, .int .i64 0, .int .i64 0, .int .i64 0, .int .i64 0, .int .i64 0, .int .i64 0, .int .i64 0] 82) := ⟨_, rfl⟩
        have bV : Below y14.heap.size y14 V22 := by rw [hVe]; exact (Below.refl _ _).alloc (Nat.le_refl _) _
        have As : Arr V22 y14.heap.size 82 (I64 Z16) := by rw [hVe]; exact Arr.new _ (I64 Z16) _
        have hXs : w.heap.size < y14.heap.size ∧ Xy < y14.heap.size ∧ Xyy < y14.heap.size ∧ Xon < y14.heap.size ∧ True := ⟨pr.lt, Ay.lt, Ayy.lt, Aon.lt, trivial⟩
        obtain ⟨Xs, hXe⟩ : ∃ X, X = y14.heap.size := ⟨_, rfl⟩
        replace fr := fr.trans (bV.mono fr.size)
        replace pr := pr.kept bV
        replace Ay := Ay.kept bV
        replace Ayy := Ayy.kept bV
        replace Aon := Aon.kept bV
        rw [← hVe]
        rw [← hXe] at As hXs ⊢
        clear hVe hXe bV
        refine hK.out _ _ ⟨arr_range Ayy, arr_range Aon⟩ (fun hHeld => ?_)
        clear hK K
        refine wpAnyH_ready (rs := [8]) (by kernel_rfl) (by simp) (AllReadyH.cons (o := { dst := some 49, op := Op.call { callee := Callee.value (Operand.func 132), args := #[Operand.tmp 48], argTypes := #[82] }, type := 82, pos := "l06_point.go:136", after := #[{ on := 7, ground := Ground.data }, { on := 7, ground := Ground.chain }], guard := none }) rfl (fun K hK => ?_) AllReadyH.nil)
        go_simp
        refine (Hiv.out _).mono ?_
        rintro e y23 ⟨rfl, hb23⟩
        replace fr := fr.trans (hb23.mono fr.size)
        replace pr := pr.kept hb23
        replace Ay := Ay.kept hb23
        replace Ayy := Ayy.kept hb23
        replace Aon := Aon.kept hb23
        replace As := As.kept hb23
        clear hb23
        go_wp2_with fail
        refine hK.out _ _ ⟨arr_range Ayy, arr_range Aon⟩ (fun hHeld => ?_)
        clear hK K
        refine wpAnyH_ready (rs := [9]) (by kernel_rfl) (by simp) (AllReadyH.cons (o := { dst := some 50, op := Op.call { callee := Callee.value (Operand.func 109), args := #[Operand.tmp 43, Operand.tmp 49], argTypes := #[82, 82] }, type := 82, pos := "l06_point.go:136", after := #[{ on := 2, ground := Ground.data }, { on := 8, ground := Ground.data }, { on := 8, ground := Ground.chain }], guard := none }) rfl (fun K hK => ?_) AllReadyH.nil)
        go_simp
        refine (Hs.out _).mono ?_
        rintro e y24 ⟨rfl, hb24⟩
        replace fr := fr.trans (hb24.mono fr.size)
        replace pr := pr.kept hb24
        replace Ay := Ay.kept hb24
        replace Ayy := Ayy.kept hb24
        replace Aon := Aon.kept hb24
        replace As := As.kept hb24
        clear hb24
        go_wp2_with fail
        refine hK.out _ _ ⟨arr_range Ayy, arr_range Aon⟩ (fun hHeld => ?_)
        clear hK K
        refine wpAnyH_ready (rs := [11]) (by kernel_rfl) (by simp) (AllReadyH.cons (o := qUt0) rfl (fun K hK => ?_) AllReadyH.nil)
        rw [if_pos (by rfl)]
        refine wp_store_mid _ _ _ rfl _ _ (I64 s).toArray rfl rfl (by have := arr_there As; simpa [ns] using this) js (all_oneCell_toArray us) ?_
        simp only [Act.put]
        obtain ⟨V25, hVe⟩ : ∃ V, V = y24.setCells Xs 0 (I64 s) := ⟨_, rfl⟩
        rw [← hVe]
        replace fr : Below w.heap.size w V25 := by rw [hVe]; exact setCells_below (by omega) _ _ fr
        replace pr : Arr V25 w.heap.size 108 (I64 Z64) := by rw [hVe]; exact Arr.setCellsO (by omega) _ _ pr
        replace Ay : Arr V25 Xy 82 (I64 y) := by rw [hVe]; exact Arr.setCellsO (by omega) _ _ Ay
        replace Ayy : Arr V25 Xyy 82 (I64 yy) := by rw [hVe]; exact Arr.setCellsO (by omega) _ _ Ayy
        replace Aon : Arr V25 Xon 82 (I64 on) := by rw [hVe]; exact Arr.setCellsO (by omega) _ _ Aon
        replace As : Arr V25 Xs 82 (I64 s) := by rw [hVe]; exact Arr.setCells0 As (by simp [ns])
        clear hVe
        refine hK.out _ _ ⟨arr_range Ayy, arr_range Aon⟩ (fun hHeld => ?_)
        clear hK K
        refine wpAnyH_done (by kernel_rfl) ?_ _
        go_wp2
        go_meet
        case rel => exact ⟨Xs, rfl, As, fr, pr, Ay, Ayy, Aon, (by omega), (by omega)⟩
      ·skip
       go_simp
       obtain ⟨V26, hVe⟩ : ∃ V, V = y13.alloc (.cells #[.int .i64 0, .int .i64 0, .int .i64 0, .int .i64 0, .int .i64 0, .int .i64 0, .int .i64 0, .int .i64 0, .int .i64 0, .int .i64 0, .int .i64 0, .int .i64 0, .int .i64 0, .int .i64 0, .int .i64 0, .int .i64 0] 82) := ⟨_, rfl⟩
       have bV : Below y13.heap.size y13 V26 := by rw [hVe]; exact (Below.refl _ _).alloc (Nat.le_refl _) _
       have As : Arr V26 y13.heap.size 82 (I64 Z16) := by rw [hVe]; exact Arr.new _ (I64 Z16) _
       have hXs : w.heap.size < y13.heap.size ∧ Xy < y13.heap.size ∧ Xyy < y13.heap.size ∧ Xon < y13.heap.size ∧ True := ⟨pr.lt, Ay.lt, Ayy.lt, Aon.lt, trivial⟩
       obtain ⟨Xs, hXe⟩ : ∃ X, X = y13.heap.size := ⟨_, rfl⟩
       replace fr := fr.trans (bV.mono fr.size)
       replace pr := pr.kept bV
       replace Ay := Ay.kept bV
       replace Ayy := Ayy.kept bV
       replace Aon := Aon.kept bV
       rw [← hVe]
       rw [← hXe] at As hXs ⊢
       clear hVe hXe bV
       refine hK.out _ _ ⟨arr_range Ayy, arr_range Aon⟩ (fun hHeld => ?_)
       clear hK K
       refine wpAnyH_ready (rs := [7]) (by kernel_rfl) (by simp) (AllReadyH.cons (o := { dst := some 48, op := Op.call { callee := Callee.value (Operand.func 111), args := #[Operand.tmp 46, Operand.tmp 47], argTypes := #[82, 82] }, type := 82, pos := "l06_point.go:136", after := #[{ on := 5, ground := Ground.data }, { on := 6, ground := Ground.data }, { on := 5, ground := Ground.chain }], guard := none }) rfl (fun K hK => ?_) AllReadyH.nil)
       go_simp
       refine (Hun.out _).mono ?_
       rintro e y27 ⟨rfl, hb27⟩
       replace fr := fr.trans (hb27.mono fr.size)
       replace pr := pr.kept hb27
       replace Ay := Ay.kept hb27
       replace Ayy := Ayy.kept hb27
       replace Aon := Aon.kept hb27
       replace As := As.kept hb27
       clear hb27
       go_wp2_with fail
       refine hK.out _ _ ⟨arr_range Ayy, arr_range Aon⟩ (fun hHeld => ?_)
       clear hK K
       refine wpAnyH_ready (rs := [8]) (by kernel_rfl) (by simp) (AllReadyH.cons (o := { dst := some 49, op := Op.call { callee := Callee.value (Operand.func 132), args := #[Operand.tmp 48], argTypes := #[82] }, type := 82, pos := "l06_point.go:136", after := #[{ on := 7, ground := Ground.data }, { on := 7, ground := Ground.chain }], guard := none }) rfl (fun K hK => ?_) AllReadyH.nil)
       go_simp
       refine (Hiv.out _).mono ?_
       rintro e y28 ⟨rfl, hb28⟩
       replace fr := fr.trans (hb28.mono fr.size)
       replace pr := pr.kept hb28
       replace Ay := Ay.kept hb28
       replace Ayy := Ayy.kept hb28
       replace Aon := Aon.kept hb28
       replace As := As.kept hb28
       clear hb28
       go_wp2_with fail
       refine hK.out _ _ ⟨arr_range Ayy, arr_range Aon⟩ (fun hHeld => ?_)
       clear hK K
       refine wpAnyH_ready (rs := [9]) (by kernel_rfl) (by simp) (AllReadyH.cons (o := { dst := some 50, op := Op.call { callee := Callee.value (Operand.func 109), args := #[Operand.tmp 43, Operand.tmp 49], argTypes := #[82, 82] }, type := 82, pos := "l06_point.go:136", after := #[{ on := 2, ground := Ground.data }, { on := 8, ground := Ground.data }, { on := 8, ground := Ground.chain }], guard := none }) rfl (fun K hK => ?_) AllReadyH.nil)
       go_simp
       refine (Hs.out _).mono ?_
       rintro e y29 ⟨rfl, hb29⟩
       replace fr := fr.trans (hb29.mono fr.size)
       replace pr := pr.kept hb29
       replace Ay := Ay.kept hb29
       replace Ayy := Ayy.kept hb29
       replace Aon := Aon.kept hb29
       replace As := As.kept hb29
       clear hb29
       go_wp2_with fail
       refine hK.out _ _ ⟨arr_range Ayy, arr_range Aon⟩ (fun hHeld => ?_)
       clear hK K
       refine wpAnyH_ready (rs := [11]) (by kernel_rfl) (by simp) (AllReadyH.cons (o := qUt0) rfl (fun K hK => ?_) AllReadyH.nil)
       rw [if_pos (by rfl)]
       refine wp_store_mid _ _ _ rfl _ _ (I64 s).toArray rfl rfl (by have := arr_there As; simpa [ns] using this) js (all_oneCell_toArray us) ?_
       simp only [Act.put]
       obtain ⟨V30, hVe⟩ : ∃ V, V = y29.setCells Xs 0 (I64 s) := ⟨_, rfl⟩
       rw [← hVe]
       replace fr : Below w.heap.size w V30 := by rw [hVe]; exact setCells_below (by omega) _ _ fr
       replace pr : Arr V30 w.heap.size 108 (I64 Z64) := by rw [hVe]; exact Arr.setCellsO (by omega) _ _ pr
       replace Ay : Arr V30 Xy 82 (I64 y) := by rw [hVe]; exact Arr.setCellsO (by omega) _ _ Ay
       replace Ayy : Arr V30 Xyy 82 (I64 yy) := by rw [hVe]; exact Arr.setCellsO (by omega) _ _ Ayy
       replace Aon : Arr V30 Xon 82 (I64 on) := by rw [hVe]; exact Arr.setCellsO (by omega) _ _ Aon
       replace As : Arr V30 Xs 82 (I64 s) := by rw [hVe]; exact Arr.setCells0 As (by simp [ns])
       clear hVe
       refine hK.out _ _ ⟨arr_range Ayy, arr_range Aon⟩ (fun hHeld => ?_)
       clear hK K
       refine wpAnyH_done (by kernel_rfl) ?_ _
       go_wp2
       go_meet
       case rel => exact ⟨Xs, rfl, As, fr, pr, Ay, Ayy, Aon, (by omega), (by omega)⟩
     ·skip
      go_simp
      obtain ⟨V31, hVe⟩ : ∃ V, V = y12.alloc (.cells #[.int .i64 0, .int .i64 0, .int .i64 0, .int .i64 0, .int .i64 0, .int .i64 0, .int .i64 0, .int .i64 0, .int .i64 0, .int .i64 0, .int .i64 0, .int .i64 0, .int .i64 0, .int .i64 0, .int .i64 0, .int .i64 0] 82) := ⟨_, rfl⟩
      have bV : Below y12.heap.size y12 V31 := by rw [hVe]; exact (Below.refl _ _).alloc (Nat.le_refl _) _
      have As : Arr V31 y12.heap.size 82 (I64 Z16) := by rw [hVe]; exact Arr.new _ (I64 Z16) _
      have hXs : w.heap.size < y12.heap.size ∧ Xy < y12.heap.size ∧ Xyy < y12.heap.size ∧ Xon < y12.heap.size ∧ True := ⟨pr.lt, Ay.lt, Ayy.lt, Aon.lt, trivial⟩
      obtain ⟨Xs, hXe⟩ : ∃ X, X = y12.heap.size := ⟨_, rfl⟩
      replace fr := fr.trans (bV.mono fr.size)
      replace pr := pr.kept bV
      replace Ay := Ay.kept bV
      replace Ayy := Ayy.kept bV
      replace Aon := Aon.kept bV
      rw [← hVe]
      rw [← hXe] at As hXs ⊢
      clear hVe hXe bV
      refine hK.out _ _ ⟨arr_range Ayy, arr_range Aon⟩ (fun hHeld => ?_)
      clear hK K
      refine wpAnyH_ready (rs := [5]) (by kernel_rfl) (by simp) (AllReadyH.cons (o := { dst := some 46, op := Op.call { callee := Callee.value (Operand.func 109), args := #[Operand.tmp 44, Operand.tmp 45], argTypes := #[82, 82] }, type := 82, pos := "l06_point.go:136", after := #[{ on := 3, ground := Ground.data }, { on := 4, ground := Ground.data }, { on := 3, ground := Ground.chain }], guard := none }) rfl (fun K hK => ?_) AllReadyH.nil)
      go_simp
      refine (Hdy.out _).mono ?_
      rintro e y32 ⟨rfl, hb32⟩
      replace fr := fr.trans (hb32.mono fr.size)
      replace pr := pr.kept hb32
      replace Ay := Ay.kept hb32
      replace Ayy := Ayy.kept hb32
      replace Aon := Aon.kept hb32
      replace As := As.kept hb32
      clear hb32
      go_wp2_with fail
      refine hK.out _ _ ⟨arr_range Ayy, arr_range Aon⟩ (fun hHeld => ?_)
      clear hK K
      refine wpAnyH_ready (rs := [7]) (by kernel_rfl) (by simp) (AllReadyH.cons (o := { dst := some 48, op := Op.call { callee := Callee.value (Operand.func 111), args := #[Operand.tmp 46, Operand.tmp 47], argTypes := #[82, 82] }, type := 82, pos := "l06_point.go:136", after := #[{ on := 5, ground := Ground.data }, { on := 6, ground := Ground.data }, { on := 5, ground := Ground.chain }], guard := none }) rfl (fun K hK => ?_) AllReadyH.nil)
      go_simp
      refine (Hun.out _).mono ?_
      rintro e y33 ⟨rfl, hb33⟩
      replace fr := fr.trans (hb33.mono fr.size)
      replace pr := pr.kept hb33
      replace Ay := Ay.kept hb33
      replace Ayy := Ayy.kept hb33
      replace Aon := Aon.kept hb33
      replace As := As.kept hb33
      clear hb33
      go_wp2_with fail
      refine hK.out _ _ ⟨arr_range Ayy, arr_range Aon⟩ (fun hHeld => ?_)
      clear hK K
      refine wpAnyH_ready (rs := [8]) (by kernel_rfl) (by simp) (AllReadyH.cons (o := { dst := some 49, op := Op.call { callee := Callee.value (Operand.func 132), args := #[Operand.tmp 48], argTypes := #[82] }, type := 82, pos := "l06_point.go:136", after := #[{ on := 7, ground := Ground.data }, { on := 7, ground := Ground.chain }], guard := none }) rfl (fun K hK => ?_) AllReadyH.nil)
      go_simp
      refine (Hiv.out _).mono ?_
      rintro e y34 ⟨rfl, hb34⟩
      replace fr := fr.trans (hb34.mono fr.size)
      replace pr := pr.kept hb34
      replace Ay := Ay.kept hb34
      replace Ayy := Ayy.kept hb34
      replace Aon := Aon.kept hb34
      replace As := As.kept hb34
      clear hb34
      go_wp2_with fail
      refine hK.out _ _ ⟨arr_range Ayy, arr_range Aon⟩ (fun hHeld => ?_)
      clear hK K
      refine wpAnyH_ready (rs := [9]) (by kernel_rfl) (by simp) (AllReadyH.cons (o := { dst := some 50, op := Op.call { callee := Callee.value (Operand.func 109), args := #[Operand.tmp 43, Operand.tmp 49], argTypes := #[82, 82] }, type := 82, pos := "l06_point.go:136", after := #[{ on := 2, ground := Ground.data }, { on := 8, ground := Ground.data }, { on := 8, ground := Ground.chain }], guard := none }) rfl (fun K hK => ?_) AllReadyH.nil)
      go_simp
      refine (Hs.out _).mono ?_
      rintro e y35 ⟨rfl, hb35⟩
      replace fr := fr.trans (hb35.mono fr.size)
      replace pr := pr.kept hb35
      replace Ay := Ay.kept hb35
      replace Ayy := Ayy.kept hb35
      replace Aon := Aon.kept hb35
      replace As := As.kept hb35
      clear hb35
      go_wp2_with fail
      refine hK.out _ _ ⟨arr_range Ayy, arr_range Aon⟩ (fun hHeld => ?_)
      clear hK K
      refine wpAnyH_ready (rs := [11]) (by kernel_rfl) (by simp) (AllReadyH.cons (o := qUt0) rfl (fun K hK => ?_) AllReadyH.nil)
      rw [if_pos (by rfl)]
      refine wp_store_mid _ _ _ rfl _ _ (I64 s).toArray rfl rfl (by have := arr_there As; simpa [ns] using this) js (all_oneCell_toArray us) ?_
      simp only [Act.put]
      obtain ⟨V36, hVe⟩ : ∃ V, V = y35.setCells Xs 0 (I64 s) := ⟨_, rfl⟩
      rw [← hVe]
      replace fr : Below w.heap.size w V36 := by rw [hVe]; exact setCells_below (by omega) _ _ fr
      replace pr : Arr V36 w.heap.size 108 (I64 Z64) := by rw [hVe]; exact Arr.setCellsO (by omega) _ _ pr
      replace Ay : Arr V36 Xy 82 (I64 y) := by rw [hVe]; exact Arr.setCellsO (by omega) _ _ Ay
      replace Ayy : Arr V36 Xyy 82 (I64 yy) := by rw [hVe]; exact Arr.setCellsO (by omega) _ _ Ayy
      replace Aon : Arr V36 Xon 82 (I64 on) := by rw [hVe]; exact Arr.setCellsO (by omega) _ _ Aon
      replace As : Arr V36 Xs 82 (I64 s) := by rw [hVe]; exact Arr.setCells0 As (by simp [ns])
      clear hVe
      refine hK.out _ _ ⟨arr_range Ayy, arr_range Aon⟩ (fun hHeld => ?_)
      clear hK K
      refine wpAnyH_done (by kernel_rfl) ?_ _
      go_wp2
      go_meet
      case rel => exact ⟨Xs, rfl, As, fr, pr, Ay, Ayy, Aon, (by omega), (by omega)⟩
    ·skip
     go_simp
     obtain ⟨V37, hVe⟩ : ∃ V, V = y11.alloc (.cells #[.int .i64 0, .int .i64 0, .int .i64 0, .int .i64 0, .int .i64 0, .int .i64 0, .int .i64 0, .int .i64 0, .int .i64 0, .int .i64 0, .int .i64 0, .int .i64 0, .int .i64 0, .int .i64 0, .int .i64 0, .int .i64 0] 82) := ⟨_, rfl⟩
     have bV : Below y11.heap.size y11 V37 := by rw [hVe]; exact (Below.refl _ _).alloc (Nat.le_refl _) _
     have As : Arr V37 y11.heap.size 82 (I64 Z16) := by rw [hVe]; exact Arr.new _ (I64 Z16) _
     have hXs : w.heap.size < y11.heap.size ∧ Xy < y11.heap.size ∧ Xyy < y11.heap.size ∧ Xon < y11.heap.size ∧ True := ⟨pr.lt, Ay.lt, Ayy.lt, Aon.lt, trivial⟩
     obtain ⟨Xs, hXe⟩ : ∃ X, X = y11.heap.size := ⟨_, rfl⟩
     replace fr := fr.trans (bV.mono fr.size)
     replace pr := pr.kept bV
     replace Ay := Ay.kept bV
     replace Ayy := Ayy.kept bV
     replace Aon := Aon.kept bV
     rw [← hVe]
     rw [← hXe] at As hXs ⊢
     clear hVe hXe bV
     refine hK.out _ _ ⟨arr_range Ayy, arr_range Aon⟩ (fun hHeld => ?_)
     clear hK K
     refine wpAnyH_ready (rs := [3]) (by kernel_rfl) (by simp) (AllReadyH.cons (o := { dst := some 44, op := Op.call { callee := Callee.value (Operand.func 113), args := #[], argTypes := #[] }, type := 82, pos := "l06_point.go:136", after := #[{ on := 2, ground := Ground.chain }], guard := none }) rfl (fun K hK => ?_) AllReadyH.nil)
     go_simp
     refine (Hd.out _).mono ?_
     rintro e y38 ⟨rfl, hb38⟩
     replace fr := fr.trans (hb38.mono fr.size)
     replace pr := pr.kept hb38
     replace Ay := Ay.kept hb38
     replace Ayy := Ayy.kept hb38
     replace Aon := Aon.kept hb38
     replace As := As.kept hb38
     clear hb38
     go_wp2_with fail
     refine hK.out _ _ ⟨arr_range Ayy, arr_range Aon⟩ (fun hHeld => ?_)
     clear hK K
     refine wpAnyH_ready (rs := [5]) (by kernel_rfl) (by simp) (AllReadyH.cons (o := { dst := some 46, op := Op.call { callee := Callee.value (Operand.func 109), args := #[Operand.tmp 44, Operand.tmp 45], argTypes := #[82, 82] }, type := 82, pos := "l06_point.go:136", after := #[{ on := 3, ground := Ground.data }, { on := 4, ground := Ground.data }, { on := 3, ground := Ground.chain }], guard := none }) rfl (fun K hK => ?_) AllReadyH.nil)
     go_simp
     refine (Hdy.out _).mono ?_
     rintro e y39 ⟨rfl, hb39⟩
     replace fr := fr.trans (hb39.mono fr.size)
     replace pr := pr.kept hb39
     replace Ay := Ay.kept hb39
     replace Ayy := Ayy.kept hb39
     replace Aon := Aon.kept hb39
     replace As := As.kept hb39
     clear hb39
     go_wp2_with fail
     refine hK.out _ _ ⟨arr_range Ayy, arr_range Aon⟩ (fun hHeld => ?_)
     clear hK K
     refine wpAnyH_ready (rs := [7]) (by kernel_rfl) (by simp) (AllReadyH.cons (o := { dst := some 48, op := Op.call { callee := Callee.value (Operand.func 111), args := #[Operand.tmp 46, Operand.tmp 47], argTypes := #[82, 82] }, type := 82, pos := "l06_point.go:136", after := #[{ on := 5, ground := Ground.data }, { on := 6, ground := Ground.data }, { on := 5, ground := Ground.chain }], guard := none }) rfl (fun K hK => ?_) AllReadyH.nil)
     go_simp
     refine (Hun.out _).mono ?_
     rintro e y40 ⟨rfl, hb40⟩
     replace fr := fr.trans (hb40.mono fr.size)
     replace pr := pr.kept hb40
     replace Ay := Ay.kept hb40
     replace Ayy := Ayy.kept hb40
     replace Aon := Aon.kept hb40
     replace As := As.kept hb40
     clear hb40
     go_wp2_with fail
     refine hK.out _ _ ⟨arr_range Ayy, arr_range Aon⟩ (fun hHeld => ?_)
     clear hK K
     refine wpAnyH_ready (rs := [8]) (by kernel_rfl) (by simp) (AllReadyH.cons (o := { dst := some 49, op := Op.call { callee := Callee.value (Operand.func 132), args := #[Operand.tmp 48], argTypes := #[82] }, type := 82, pos := "l06_point.go:136", after := #[{ on := 7, ground := Ground.data }, { on := 7, ground := Ground.chain }], guard := none }) rfl (fun K hK => ?_) AllReadyH.nil)
     go_simp
     refine (Hiv.out _).mono ?_
     rintro e y41 ⟨rfl, hb41⟩
     replace fr := fr.trans (hb41.mono fr.size)
     replace pr := pr.kept hb41
     replace Ay := Ay.kept hb41
     replace Ayy := Ayy.kept hb41
     replace Aon := Aon.kept hb41
     replace As := As.kept hb41
     clear hb41
     go_wp2_with fail
     refine hK.out _ _ ⟨arr_range Ayy, arr_range Aon⟩ (fun hHeld => ?_)
     clear hK K
     refine wpAnyH_ready (rs := [9]) (by kernel_rfl) (by simp) (AllReadyH.cons (o := { dst := some 50, op := Op.call { callee := Callee.value (Operand.func 109), args := #[Operand.tmp 43, Operand.tmp 49], argTypes := #[82, 82] }, type := 82, pos := "l06_point.go:136", after := #[{ on := 2, ground := Ground.data }, { on := 8, ground := Ground.data }, { on := 8, ground := Ground.chain }], guard := none }) rfl (fun K hK => ?_) AllReadyH.nil)
     go_simp
     refine (Hs.out _).mono ?_
     rintro e y42 ⟨rfl, hb42⟩
     replace fr := fr.trans (hb42.mono fr.size)
     replace pr := pr.kept hb42
     replace Ay := Ay.kept hb42
     replace Ayy := Ayy.kept hb42
     replace Aon := Aon.kept hb42
     replace As := As.kept hb42
     clear hb42
     go_wp2_with fail
     refine hK.out _ _ ⟨arr_range Ayy, arr_range Aon⟩ (fun hHeld => ?_)
     clear hK K
     refine wpAnyH_ready (rs := [11]) (by kernel_rfl) (by simp) (AllReadyH.cons (o := qUt0) rfl (fun K hK => ?_) AllReadyH.nil)
     rw [if_pos (by rfl)]
     refine wp_store_mid _ _ _ rfl _ _ (I64 s).toArray rfl rfl (by have := arr_there As; simpa [ns] using this) js (all_oneCell_toArray us) ?_
     simp only [Act.put]
     obtain ⟨V43, hVe⟩ : ∃ V, V = y42.setCells Xs 0 (I64 s) := ⟨_, rfl⟩
     rw [← hVe]
     replace fr : Below w.heap.size w V43 := by rw [hVe]; exact setCells_below (by omega) _ _ fr
     replace pr : Arr V43 w.heap.size 108 (I64 Z64) := by rw [hVe]; exact Arr.setCellsO (by omega) _ _ pr
     replace Ay : Arr V43 Xy 82 (I64 y) := by rw [hVe]; exact Arr.setCellsO (by omega) _ _ Ay
     replace Ayy : Arr V43 Xyy 82 (I64 yy) := by rw [hVe]; exact Arr.setCellsO (by omega) _ _ Ayy
     replace Aon : Arr V43 Xon 82 (I64 on) := by rw [hVe]; exact Arr.setCellsO (by omega) _ _ Aon
     replace As : Arr V43 Xs 82 (I64 s) := by rw [hVe]; exact Arr.setCells0 As (by simp [ns])
     clear hVe
     refine hK.out _ _ ⟨arr_range Ayy, arr_range Aon⟩ (fun hHeld => ?_)
     clear hK K
     refine wpAnyH_done (by kernel_rfl) ?_ _
     go_wp2
     go_meet
     case rel => exact ⟨Xs, rfl, As, fr, pr, Ay, Ayy, Aon, (by omega), (by omega)⟩
   ·skip
    go_simp
    obtain ⟨V44, hVe⟩ : ∃ V, V = D10.alloc (.cells #[.int .i64 0, .int .i64 0, .int .i64 0, .int .i64 0, .int .i64 0, .int .i64 0, .int .i64 0, .int .i64 0, .int .i64 0, .int .i64 0, .int .i64 0, .int .i64 0, .int .i64 0, .int .i64 0, .int .i64 0, .int .i64 0] 82) := ⟨_, rfl⟩
    have bV : Below D10.heap.size D10 V44 := by rw [hVe]; exact (Below.refl _ _).alloc (Nat.le_refl _) _
    have As : Arr V44 D10.heap.size 82 (I64 Z16) := by rw [hVe]; exact Arr.new _ (I64 Z16) _
    have hXs : w.heap.size < D10.heap.size ∧ Xy < D10.heap.size ∧ Xyy < D10.heap.size ∧ Xon < D10.heap.size ∧ True := ⟨pr.lt, Ay.lt, Ayy.lt, Aon.lt, trivial⟩
    obtain ⟨Xs, hXe⟩ : ∃ X, X = D10.heap.size := ⟨_, rfl⟩
    replace fr := fr.trans (bV.mono fr.size)
    replace pr := pr.kept bV
    replace Ay := Ay.kept bV
    replace Ayy := Ayy.kept bV
    replace Aon := Aon.kept bV
    rw [← hVe]
    rw [← hXe] at As hXs ⊢
    clear hVe hXe bV
    refine hK.out _ _ ⟨arr_range Ayy, arr_range Aon⟩ (fun hHeld => ?_)
    clear hK K
    refine wpAnyH_ready (rs := [2]) (by kernel_rfl) (by simp) (AllReadyH.cons (o := { dst := some 43, op := Op.call { callee := Callee.value (Operand.func 110), args := #[Operand.tmp 41, Operand.tmp 42], argTypes := #[82, 82] }, type := 82, pos := "l06_point.go:136", after := #[{ on := 0, ground := Ground.data }, { on := 1, ground := Ground.data }], guard := none }) rfl (fun K hK => ?_) AllReadyH.nil)
    go_simp
    refine (Hov.out _).mono ?_
    rintro e y45 ⟨rfl, hb45⟩
    replace fr := fr.trans (hb45.mono fr.size)
    replace pr := pr.kept hb45
    replace Ay := Ay.kept hb45
    replace Ayy := Ayy.kept hb45
    replace Aon := Aon.kept hb45
    replace As := As.kept hb45
    clear hb45
    go_wp2_with fail
    refine hK.out _ _ ⟨arr_range Ayy, arr_range Aon⟩ (fun hHeld => ?_)
    clear hK K
    refine wpAnyH_ready (rs := [3]) (by kernel_rfl) (by simp) (AllReadyH.cons (o := { dst := some 44, op := Op.call { callee := Callee.value (Operand.func 113), args := #[], argTypes := #[] }, type := 82, pos := "l06_point.go:136", after := #[{ on := 2, ground := Ground.chain }], guard := none }) rfl (fun K hK => ?_) AllReadyH.nil)
    go_simp
    refine (Hd.out _).mono ?_
    rintro e y46 ⟨rfl, hb46⟩
    replace fr := fr.trans (hb46.mono fr.size)
    replace pr := pr.kept hb46
    replace Ay := Ay.kept hb46
    replace Ayy := Ayy.kept hb46
    replace Aon := Aon.kept hb46
    replace As := As.kept hb46
    clear hb46
    go_wp2_with fail
    refine hK.out _ _ ⟨arr_range Ayy, arr_range Aon⟩ (fun hHeld => ?_)
    clear hK K
    refine wpAnyH_ready (rs := [5]) (by kernel_rfl) (by simp) (AllReadyH.cons (o := { dst := some 46, op := Op.call { callee := Callee.value (Operand.func 109), args := #[Operand.tmp 44, Operand.tmp 45], argTypes := #[82, 82] }, type := 82, pos := "l06_point.go:136", after := #[{ on := 3, ground := Ground.data }, { on := 4, ground := Ground.data }, { on := 3, ground := Ground.chain }], guard := none }) rfl (fun K hK => ?_) AllReadyH.nil)
    go_simp
    refine (Hdy.out _).mono ?_
    rintro e y47 ⟨rfl, hb47⟩
    replace fr := fr.trans (hb47.mono fr.size)
    replace pr := pr.kept hb47
    replace Ay := Ay.kept hb47
    replace Ayy := Ayy.kept hb47
    replace Aon := Aon.kept hb47
    replace As := As.kept hb47
    clear hb47
    go_wp2_with fail
    refine hK.out _ _ ⟨arr_range Ayy, arr_range Aon⟩ (fun hHeld => ?_)
    clear hK K
    refine wpAnyH_ready (rs := [7]) (by kernel_rfl) (by simp) (AllReadyH.cons (o := { dst := some 48, op := Op.call { callee := Callee.value (Operand.func 111), args := #[Operand.tmp 46, Operand.tmp 47], argTypes := #[82, 82] }, type := 82, pos := "l06_point.go:136", after := #[{ on := 5, ground := Ground.data }, { on := 6, ground := Ground.data }, { on := 5, ground := Ground.chain }], guard := none }) rfl (fun K hK => ?_) AllReadyH.nil)
    go_simp
    refine (Hun.out _).mono ?_
    rintro e y48 ⟨rfl, hb48⟩
    replace fr := fr.trans (hb48.mono fr.size)
    replace pr := pr.kept hb48
    replace Ay := Ay.kept hb48
    replace Ayy := Ayy.kept hb48
    replace Aon := Aon.kept hb48
    replace As := As.kept hb48
    clear hb48
    go_wp2_with fail
    refine hK.out _ _ ⟨arr_range Ayy, arr_range Aon⟩ (fun hHeld => ?_)
    clear hK K
    refine wpAnyH_ready (rs := [8]) (by kernel_rfl) (by simp) (AllReadyH.cons (o := { dst := some 49, op := Op.call { callee := Callee.value (Operand.func 132), args := #[Operand.tmp 48], argTypes := #[82] }, type := 82, pos := "l06_point.go:136", after := #[{ on := 7, ground := Ground.data }, { on := 7, ground := Ground.chain }], guard := none }) rfl (fun K hK => ?_) AllReadyH.nil)
    go_simp
    refine (Hiv.out _).mono ?_
    rintro e y49 ⟨rfl, hb49⟩
    replace fr := fr.trans (hb49.mono fr.size)
    replace pr := pr.kept hb49
    replace Ay := Ay.kept hb49
    replace Ayy := Ayy.kept hb49
    replace Aon := Aon.kept hb49
    replace As := As.kept hb49
    clear hb49
    go_wp2_with fail
    refine hK.out _ _ ⟨arr_range Ayy, arr_range Aon⟩ (fun hHeld => ?_)
    clear hK K
    refine wpAnyH_ready (rs := [9]) (by kernel_rfl) (by simp) (AllReadyH.cons (o := { dst := some 50, op := Op.call { callee := Callee.value (Operand.func 109), args := #[Operand.tmp 43, Operand.tmp 49], argTypes := #[82, 82] }, type := 82, pos := "l06_point.go:136", after := #[{ on := 2, ground := Ground.data }, { on := 8, ground := Ground.data }, { on := 8, ground := Ground.chain }], guard := none }) rfl (fun K hK => ?_) AllReadyH.nil)
    go_simp
    refine (Hs.out _).mono ?_
    rintro e y50 ⟨rfl, hb50⟩
    replace fr := fr.trans (hb50.mono fr.size)
    replace pr := pr.kept hb50
    replace Ay := Ay.kept hb50
    replace Ayy := Ayy.kept hb50
    replace Aon := Aon.kept hb50
    replace As := As.kept hb50
    clear hb50
    go_wp2_with fail
    refine hK.out _ _ ⟨arr_range Ayy, arr_range Aon⟩ (fun hHeld => ?_)
    clear hK K
    refine wpAnyH_ready (rs := [11]) (by kernel_rfl) (by simp) (AllReadyH.cons (o := qUt0) rfl (fun K hK => ?_) AllReadyH.nil)
    rw [if_pos (by rfl)]
    refine wp_store_mid _ _ _ rfl _ _ (I64 s).toArray rfl rfl (by have := arr_there As; simpa [ns] using this) js (all_oneCell_toArray us) ?_
    simp only [Act.put]
    obtain ⟨V51, hVe⟩ : ∃ V, V = y50.setCells Xs 0 (I64 s) := ⟨_, rfl⟩
    rw [← hVe]
    replace fr : Below w.heap.size w V51 := by rw [hVe]; exact setCells_below (by omega) _ _ fr
    replace pr : Arr V51 w.heap.size 108 (I64 Z64) := by rw [hVe]; exact Arr.setCellsO (by omega) _ _ pr
    replace Ay : Arr V51 Xy 82 (I64 y) := by rw [hVe]; exact Arr.setCellsO (by omega) _ _ Ay
    replace Ayy : Arr V51 Xyy 82 (I64 yy) := by rw [hVe]; exact Arr.setCellsO (by omega) _ _ Ayy
    replace Aon : Arr V51 Xon 82 (I64 on) := by rw [hVe]; exact Arr.setCellsO (by omega) _ _ Aon
    replace As : Arr V51 Xs 82 (I64 s) := by rw [hVe]; exact Arr.setCells0 As (by simp [ns])
    clear hVe
    refine hK.out _ _ ⟨arr_range Ayy, arr_range Aon⟩ (fun hHeld => ?_)
    clear hK K
    refine wpAnyH_done (by kernel_rfl) ?_ _
    go_wp2
    go_meet
    case rel => exact ⟨Xs, rfl, As, fr, pr, Ay, Ayy, Aon, (by omega), (by omega)⟩
  case rest =>
   clear fr pr Ay Ayy Aon
   obtain ⟨Xs, rfl, As, fr, pr, Ay, Ayy, Aon, hq0, hq1⟩ := hcut
   obtain ⟨C52, hwc⟩ : ∃ V, V = wc := ⟨_, rfl⟩
   rw [← hwc] at fr pr Ay Ayy Aon As ⊢
   clear hwc
   clear Ayy
   clear Aon
   go_wp2_with (refine wpList_load_row rfl 82 _ rfl Xs rfl 82 (I64 s).toArray (0, 0) _ As Tryd.underlying82 rfl js ?_)
   refine (Hrt.out _).mono ?_
   rintro e y53 ⟨rfl, hb53⟩
   replace fr := fr.trans (hb53.mono fr.size)
   replace pr := pr.kept hb53
   replace Ay := Ay.kept hb53
   replace As := As.kept hb53
   clear hb53
   have hXx : w.heap.size < y53.heap.size ∧ Xy < y53.heap.size ∧ Xs < y53.heap.size ∧ w.heap.size ≤ y53.heap.size := ⟨pr.lt, Ay.lt, As.lt, fr.size⟩
   obtain ⟨bV, Ax, q1⟩ := laid_e y53 x
   replace fr := fr.trans (bV.mono fr.size)
   replace pr := pr.kept bV
   replace Ay := Ay.kept bV
   replace As := As.kept bV
   go_upto_region 13 with (refine wpList_store_row rfl 82 _ _ rfl y53.heap.size (I64 x).toArray rfl rfl 82 _ q1 jx (by simp [nx]) (by simp [Value.oneCell']) ?_)
   obtain ⟨V54, hVV⟩ : ∃ V, V = (y53.alloc (.cells #[.int .i64 0, .int .i64 0, .int .i64 0, .int .i64 0, .int .i64 0, .int .i64 0, .int .i64 0, .int .i64 0, .int .i64 0, .int .i64 0, .int .i64 0, .int .i64 0, .int .i64 0, .int .i64 0, .int .i64 0, .int .i64 0] 82)).setRow y53.heap.size (I64 x).toArray := ⟨_, rfl⟩
   obtain ⟨Xx, hE⟩ : ∃ E, E = y53.heap.size := ⟨_, rfl⟩
   rw [← hVV] at fr pr Ay As Ax ⊢
   rw [← hE] at Ax hXx ⊢
   clear hVV hE q1 bV
   cases ok with
   | false =>
    have h2 := pr.row (I64 Z64)
    have HB : Hid _ := setRow_below fr w.heap.size (I64 Z64).toArray (by omega)
    have hRf : Hid (r = false) := by unfold Hid; rw [HRX.out]; rfl
    have hTf : Hid (T = Z64) := HT0.out hRf.out
    go_wp2_with (refine wpList_store_row rfl 108 _ _ rfl w.heap.size (I64 Z64).toArray rfl rfl 108 _ pr hz (by simp []) (by simp [Value.oneCell']) ?_)
    exact bodyPost_ret (results_row_tmp (v := .bool false) (cs := I64 Z64) rfl rfl rfl h2 Tryd.underlying108 rfl hz) rfl ⟨by rw [hTf.out, hRf.out], HB.out⟩
   | true =>
    obtain ⟨hx3, kx⟩ := HX.out (by simp)
    have HX3 : Hid (x = rt3 s) := hx3
    clear hx3
    go_wp2_with (refine wpList_load_rowW rfl 82 _ rfl Xx rfl 82 (I64 x).toArray (0, 0) _ Ax Tryd.underlying82 rfl jx ?_)
    refine (Hze.out _).mono ?_
    rintro e y55 ⟨rfl, hb55⟩
    replace fr := fr.trans (hb55.mono fr.size)
    replace pr := pr.kept hb55
    replace Ay := Ay.kept hb55
    replace As := As.kept hb55
    replace Ax := Ax.kept hb55
    clear hb55
    rcases hq2 with rfl | rfl
    ·skip
     have hRt : Hid (r = true) := by unfold Hid; rw [HRX.out]; simp
     have hTt : Hid (T = (mk6 x y).cells) := by unfold Hid; rw [HTX.out hRt.out, if_neg (by omega), HX3.out]
     obtain ⟨P, hPe⟩ : ∃ P, P = mk6 x y := ⟨_, rfl⟩
     have hP : P.Ok := by rw [hPe]; exact mk6_ok kx ky
     have HM : Hid (∀ Z, Calls Tryd.prog 126 #[.agg (I64 x).toArray, .agg (I64 y).toArray] Z fun e w' => e = .returned (.agg (I64 P.cells).toArray) ∧ Below Z.heap.size Z w') := by unfold Hid; intro Z; rw [hPe]; exact spec6make x y Z kx ky
     have hip := infoP' hP
     have hPl := E4.len hP
     have jq := infoE' kx
     cases zz with
     | false =>
      have HPe : Hid (P = mk6 x y) := hPe
      clear hPe
      go_wp2_with (first
        | (refine wpList_load_row rfl 82 _ rfl Xx rfl 82 (I64 x).toArray (0, 0) _ Ax Tryd.underlying82 rfl jq ?_)
        | (refine wpList_load_row rfl 82 _ rfl Xy rfl 82 (I64 y).toArray (0, 0) _ Ay Tryd.underlying82 rfl jy ?_))
      refine (HM.out _).mono ?_
      rintro e y56 ⟨rfl, hb56⟩
      replace fr := fr.trans (hb56.mono fr.size)
      replace pr := pr.kept hb56
      replace Ay := Ay.kept hb56
      replace As := As.kept hb56
      replace Ax := Ax.kept hb56
      clear hb56
      have h2 := pr.row (I64 P.cells)
      have HB : Hid _ := setRow_below fr w.heap.size (I64 P.cells).toArray (by omega)
      go_wp2_with (refine wpList_store_row rfl 108 _ _ rfl w.heap.size (I64 P.cells).toArray rfl rfl 108 _ pr hip (by simp [hPl]) (by simp [Value.oneCell']) ?_)
      exact bodyPost_ret (results_row_tmp (v := .bool true) (cs := I64 P.cells) rfl rfl rfl h2 Tryd.underlying108 rfl hip) rfl ⟨by rw [hTt.out, hRt.out, HPe.out], HB.out⟩
     | true =>
      have HPe : Hid (P = mk6 x y) := hPe
      clear hPe
      go_wp2_with (first
        | (refine wpList_load_row rfl 82 _ rfl Xx rfl 82 (I64 x).toArray (0, 0) _ Ax Tryd.underlying82 rfl jq ?_)
        | (refine wpList_load_row rfl 82 _ rfl Xy rfl 82 (I64 y).toArray (0, 0) _ Ay Tryd.underlying82 rfl jy ?_))
      refine (HM.out _).mono ?_
      rintro e y57 ⟨rfl, hb57⟩
      replace fr := fr.trans (hb57.mono fr.size)
      replace pr := pr.kept hb57
      replace Ay := Ay.kept hb57
      replace As := As.kept hb57
      replace Ax := Ax.kept hb57
      clear hb57
      have h2 := pr.row (I64 P.cells)
      have HB : Hid _ := setRow_below fr w.heap.size (I64 P.cells).toArray (by omega)
      go_wp2_with (refine wpList_store_row rfl 108 _ _ rfl w.heap.size (I64 P.cells).toArray rfl rfl 108 _ pr hip (by simp [hPl]) (by simp [Value.oneCell']) ?_)
      exact bodyPost_ret (results_row_tmp (v := .bool true) (cs := I64 P.cells) rfl rfl rfl h2 Tryd.underlying108 rfl hip) rfl ⟨by rw [hTt.out, hRt.out, HPe.out], HB.out⟩
    ·skip
     cases zz with
     | false =>
      have hRt : Hid (r = true) := by unfold Hid; rw [HRX.out, ← HX3.out, ← Hzz.out]; rfl
      obtain ⟨m, hm⟩ : ∃ m, m = tk16 PL x := ⟨_, rfl⟩
      have hTt : Hid (T = (mk6 m y).cells) := by unfold Hid; rw [HTX.out hRt.out, if_pos rfl, hm, HX3.out]
      have hz0 : val x ≠ 0 := by intro h; have h1 := (z16_of kx).2 h; have h2 := Hzz.out; rw [h1] at h2; simp at h2
      have km : feOk m = true := by
       obtain ⟨l1, l2, l3⟩ := (feOk_iff _).1 kx
       have h0 := val_nonneg (fun x hx => (l2 x hx).1)
       have hv : val (tk16 PL x) = P25519 - val x := by
        rw [tk16_lim PL_len l1, PL_val, val_lim, p256]
        exact Int.emod_eq_of_lt (by omega) (by unfold P25519; omega)
       rw [hm]; exact (feOk_iff _).2 ⟨by rw [tk16_lim PL_len l1]; exact lim_len _ _, by rw [tk16_lim PL_len l1]; exact lim_lm _ _, by rw [hv]; omega⟩
      have Htk : Hid (∀ Z, Calls Tryd.prog 127 #[.agg (I64 PL).toArray, .agg (I64 x).toArray] Z fun e w' => e = .returned (.agg (I64 m).toArray) ∧ Below Z.heap.size Z w') := by unfold Hid; intro Z; rw [hm]; exact specTake PL x Z PL_len nx PL_lm (feOk_lm' kx)
      have jm := infoE' km
      have nm := feOk_len km
      have um := one_lm m
      clear hm hz0
      obtain ⟨P, hPe⟩ : ∃ P, P = mk6 m y := ⟨_, rfl⟩
      have hP : P.Ok := by rw [hPe]; exact mk6_ok km ky
      have HM : Hid (∀ Z, Calls Tryd.prog 126 #[.agg (I64 m).toArray, .agg (I64 y).toArray] Z fun e w' => e = .returned (.agg (I64 P.cells).toArray) ∧ Below Z.heap.size Z w') := by unfold Hid; intro Z; rw [hPe]; exact spec6make m y Z km ky
      have hip := infoP' hP
      have hPl := E4.len hP
      have jq := infoE' km
      go_upto_region 16 with fail
      try simp only [Act.put]
      have bD : Below y55.heap.size y55 y55.drew := (Below.refl _ _).drew
      replace fr := fr.trans (bD.mono fr.size)
      replace pr := pr.kept bD
      replace Ay := Ay.kept bD
      replace As := As.kept bD
      replace Ax := Ax.kept bD
      clear bD
      refine wp_region_held_drew (S := fun W => W.rangeAt Xy 0 (I64 y)) (by kernel_rfl) (arr_range Ay) (fun hHeld => ?_)
      obtain ⟨D58, hD⟩ : ∃ V, V = y55.drew := ⟨_, rfl⟩
      rw [← hD] at hHeld fr pr Ay As Ax ⊢
      clear hD
      refine wpAnyH_ready (rs := [0, 1]) (by kernel_rfl) (by simp) (AllReadyH.cons (o := { dst := some 69, op := Op.call { callee := Callee.value (Operand.func 128), args := #[], argTypes := #[] }, type := 82, pos := "l06_point.go:142", after := #[], guard := none }) rfl (fun K hK => ?_) (AllReadyH.cons (o := { dst := some 70, op := Op.load 82 (Operand.tmp 10), type := 82, pos := "l06_point.go:142", after := #[], guard := none }) rfl (fun K hK => ?_) AllReadyH.nil))
      ·skip
       go_simp
       refine (HPR.out _).mono ?_
       rintro e y59 ⟨rfl, hb59⟩
       replace fr := fr.trans (hb59.mono fr.size)
       replace pr := pr.kept hb59
       replace Ay := Ay.kept hb59
       replace As := As.kept hb59
       replace Ax := Ax.kept hb59
       clear hb59
       go_wp2_with fail
       refine hK.out _ _ (arr_range Ay) (fun hHeld => ?_)
       clear hK K
       refine wpAnyH_ready (rs := [1]) (by kernel_rfl) (by simp) (AllReadyH.cons (o := { dst := some 70, op := Op.load 82 (Operand.tmp 10), type := 82, pos := "l06_point.go:142", after := #[], guard := none }) rfl (fun K hK => ?_) AllReadyH.nil)
       rw [if_pos (by rfl)]
       refine wp_load_mid _ _ rfl _ _ rfl (I64 x) _ (arr_range Ax) hu rfl iix ?_
       simp only [Act.put]
       refine hK.out _ _ (arr_range Ay) (fun hHeld => ?_)
       clear hK K
       refine wpAnyH_ready (rs := [2]) (by kernel_rfl) (by simp) (AllReadyH.cons (o := { dst := some 71, op := Op.call { callee := Callee.value (Operand.func 127), args := #[Operand.tmp 69, Operand.tmp 70], argTypes := #[82, 82] }, type := 82, pos := "l06_point.go:142", after := #[{ on := 0, ground := Ground.data }, { on := 1, ground := Ground.data }, { on := 0, ground := Ground.chain }], guard := none }) rfl (fun K hK => ?_) AllReadyH.nil)
       go_simp
       refine (Htk.out _).mono ?_
       rintro e y60 ⟨rfl, hb60⟩
       replace fr := fr.trans (hb60.mono fr.size)
       replace pr := pr.kept hb60
       replace Ay := Ay.kept hb60
       replace As := As.kept hb60
       replace Ax := Ax.kept hb60
       clear hb60
       go_wp2_with fail
       refine hK.out _ _ (arr_range Ay) (fun hHeld => ?_)
       clear hK K
       refine wpAnyH_ready (rs := [3]) (by kernel_rfl) (by simp) (AllReadyH.cons (o := qUt1) rfl (fun K hK => ?_) AllReadyH.nil)
       rw [if_pos (by rfl)]
       refine wp_store_mid _ _ _ rfl _ _ (I64 m).toArray rfl rfl (by have := arr_there Ax; simpa [nm, nx] using this) jm (all_oneCell_toArray um) ?_
       simp only [Act.put]
       obtain ⟨V61, hVe⟩ : ∃ V, V = y60.setCells Xx 0 (I64 m) := ⟨_, rfl⟩
       rw [← hVe]
       replace fr : Below w.heap.size w V61 := by rw [hVe]; exact setCells_below (by omega) _ _ fr
       replace pr : Arr V61 w.heap.size 108 (I64 Z64) := by rw [hVe]; exact Arr.setCellsO (by omega) _ _ pr
       replace Ay : Arr V61 Xy 82 (I64 y) := by rw [hVe]; exact Arr.setCellsO (by omega) _ _ Ay
       replace As : Arr V61 Xs 82 (I64 s) := by rw [hVe]; exact Arr.setCellsO (by omega) _ _ As
       replace Ax : Arr V61 Xx 82 (I64 m) := by rw [hVe]; exact Arr.setCells0 Ax (by simp [nm, nx])
       clear hVe
       refine hK.out _ _ (arr_range Ay) (fun hHeld => ?_)
       clear hK K
       refine wpAnyH_done (by kernel_rfl) ?_ _
       have HPe : Hid (P = mk6 m y) := hPe
       clear hPe
       go_wp2_with (first
         | (refine wpList_load_row rfl 82 _ rfl Xx rfl 82 (I64 m).toArray (0, 0) _ Ax Tryd.underlying82 rfl jq ?_)
         | (refine wpList_load_row rfl 82 _ rfl Xy rfl 82 (I64 y).toArray (0, 0) _ Ay Tryd.underlying82 rfl jy ?_))
       refine (HM.out _).mono ?_
       rintro e y62 ⟨rfl, hb62⟩
       replace fr := fr.trans (hb62.mono fr.size)
       replace pr := pr.kept hb62
       replace Ay := Ay.kept hb62
       replace As := As.kept hb62
       replace Ax := Ax.kept hb62
       clear hb62
       have h2 := pr.row (I64 P.cells)
       have HB : Hid _ := setRow_below fr w.heap.size (I64 P.cells).toArray (by omega)
       go_wp2_with (refine wpList_store_row rfl 108 _ _ rfl w.heap.size (I64 P.cells).toArray rfl rfl 108 _ pr hip (by simp [hPl]) (by simp [Value.oneCell']) ?_)
       exact bodyPost_ret (results_row_tmp (v := .bool true) (cs := I64 P.cells) rfl rfl rfl h2 Tryd.underlying108 rfl hip) rfl ⟨by rw [hTt.out, hRt.out, HPe.out], HB.out⟩
      ·skip
       rw [if_pos (by rfl)]
       refine wp_load_mid _ _ rfl _ _ rfl (I64 x) _ (arr_range Ax) hu rfl iix ?_
       simp only [Act.put]
       refine hK.out _ _ (arr_range Ay) (fun hHeld => ?_)
       clear hK K
       refine wpAnyH_ready (rs := [0]) (by kernel_rfl) (by simp) (AllReadyH.cons (o := { dst := some 69, op := Op.call { callee := Callee.value (Operand.func 128), args := #[], argTypes := #[] }, type := 82, pos := "l06_point.go:142", after := #[], guard := none }) rfl (fun K hK => ?_) AllReadyH.nil)
       go_simp
       refine (HPR.out _).mono ?_
       rintro e y63 ⟨rfl, hb63⟩
       replace fr := fr.trans (hb63.mono fr.size)
       replace pr := pr.kept hb63
       replace Ay := Ay.kept hb63
       replace As := As.kept hb63
       replace Ax := Ax.kept hb63
       clear hb63
       go_wp2_with fail
       refine hK.out _ _ (arr_range Ay) (fun hHeld => ?_)
       clear hK K
       refine wpAnyH_ready (rs := [2]) (by kernel_rfl) (by simp) (AllReadyH.cons (o := { dst := some 71, op := Op.call { callee := Callee.value (Operand.func 127), args := #[Operand.tmp 69, Operand.tmp 70], argTypes := #[82, 82] }, type := 82, pos := "l06_point.go:142", after := #[{ on := 0, ground := Ground.data }, { on := 1, ground := Ground.data }, { on := 0, ground := Ground.chain }], guard := none }) rfl (fun K hK => ?_) AllReadyH.nil)
       go_simp
       refine (Htk.out _).mono ?_
       rintro e y64 ⟨rfl, hb64⟩
       replace fr := fr.trans (hb64.mono fr.size)
       replace pr := pr.kept hb64
       replace Ay := Ay.kept hb64
       replace As := As.kept hb64
       replace Ax := Ax.kept hb64
       clear hb64
       go_wp2_with fail
       refine hK.out _ _ (arr_range Ay) (fun hHeld => ?_)
       clear hK K
       refine wpAnyH_ready (rs := [3]) (by kernel_rfl) (by simp) (AllReadyH.cons (o := qUt1) rfl (fun K hK => ?_) AllReadyH.nil)
       rw [if_pos (by rfl)]
       refine wp_store_mid _ _ _ rfl _ _ (I64 m).toArray rfl rfl (by have := arr_there Ax; simpa [nm, nx] using this) jm (all_oneCell_toArray um) ?_
       simp only [Act.put]
       obtain ⟨V65, hVe⟩ : ∃ V, V = y64.setCells Xx 0 (I64 m) := ⟨_, rfl⟩
       rw [← hVe]
       replace fr : Below w.heap.size w V65 := by rw [hVe]; exact setCells_below (by omega) _ _ fr
       replace pr : Arr V65 w.heap.size 108 (I64 Z64) := by rw [hVe]; exact Arr.setCellsO (by omega) _ _ pr
       replace Ay : Arr V65 Xy 82 (I64 y) := by rw [hVe]; exact Arr.setCellsO (by omega) _ _ Ay
       replace As : Arr V65 Xs 82 (I64 s) := by rw [hVe]; exact Arr.setCellsO (by omega) _ _ As
       replace Ax : Arr V65 Xx 82 (I64 m) := by rw [hVe]; exact Arr.setCells0 Ax (by simp [nm, nx])
       clear hVe
       refine hK.out _ _ (arr_range Ay) (fun hHeld => ?_)
       clear hK K
       refine wpAnyH_done (by kernel_rfl) ?_ _
       have HPe : Hid (P = mk6 m y) := hPe
       clear hPe
       go_wp2_with (first
         | (refine wpList_load_row rfl 82 _ rfl Xx rfl 82 (I64 m).toArray (0, 0) _ Ax Tryd.underlying82 rfl jq ?_)
         | (refine wpList_load_row rfl 82 _ rfl Xy rfl 82 (I64 y).toArray (0, 0) _ Ay Tryd.underlying82 rfl jy ?_))
       refine (HM.out _).mono ?_
       rintro e y66 ⟨rfl, hb66⟩
       replace fr := fr.trans (hb66.mono fr.size)
       replace pr := pr.kept hb66
       replace Ay := Ay.kept hb66
       replace As := As.kept hb66
       replace Ax := Ax.kept hb66
       clear hb66
       have h2 := pr.row (I64 P.cells)
       have HB : Hid _ := setRow_below fr w.heap.size (I64 P.cells).toArray (by omega)
       go_wp2_with (refine wpList_store_row rfl 108 _ _ rfl w.heap.size (I64 P.cells).toArray rfl rfl 108 _ pr hip (by simp [hPl]) (by simp [Value.oneCell']) ?_)
       exact bodyPost_ret (results_row_tmp (v := .bool true) (cs := I64 P.cells) rfl rfl rfl h2 Tryd.underlying108 rfl hip) rfl ⟨by rw [hTt.out, hRt.out, HPe.out], HB.out⟩
     | true =>
      have h2 := pr.row (I64 Z64)
      have HB : Hid _ := setRow_below fr w.heap.size (I64 Z64).toArray (by omega)
      have hRf : Hid (r = false) := by unfold Hid; rw [HRX.out]; have h := Hzz.out; rw [← HX3.out, ← h]; rfl
      have hTf : Hid (T = Z64) := HT0.out hRf.out
      go_wp2_with (refine wpList_store_row rfl 108 _ _ rfl w.heap.size (I64 Z64).toArray rfl rfl 108 _ pr hz (by simp []) (by simp [Value.oneCell']) ?_)
      exact bodyPost_ret (results_row_tmp (v := .bool false) (cs := I64 Z64) rfl rfl rfl h2 Tryd.underlying108 rfl hz) rfl ⟨by rw [hTf.out, hRf.out], HB.out⟩

end Go.Proofs.YtoblilngppjmhaaDoor

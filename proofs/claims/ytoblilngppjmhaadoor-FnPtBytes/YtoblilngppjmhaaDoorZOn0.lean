/-
  What is proved here: the program's PtBase answers the base; where its variables hold it; plain mathematics of a point's bytes: a point comes back from its bytes; whatever bytes are those of a point are just its bytes; no program is spoken of; the contract of the specification's l5twice: twice a multiplier and a bit, modulo the order.
-/
import Derived.Test.YtoblilngppjmhaaDoorZOm0
import Derived.Test.YtoblilngppjmhaaDoorZOhb
import Derived.Test.YtoblilngppjmhaaDoorZHdm
import Derived.Test.YtoblilngppjmhaaDoorZRbt
import Derived.Test.YtoblilngppjmhaaDoorZUl
import Derived.Test.YtoblilngppjmhaaDoorZKb
namespace Go.Proofs.YtoblilngppjmhaaDoor
open Go.RowKit
set_option maxRecDepth 100000
set_option maxHeartbeats 4000000
set_option linter.unusedSectionVars false

theorem BX_val : val BX = (bxN : Int) := by decide
theorem BY_val : val BY = (byN : Int) := by decide
section
variable [NeZero pN]
theorem base_lists : BX = cx baseK.1 ∧ BY = cx baseK.2 := by
  have h1 : fl BX = baseK.1 := by unfold fl; rw [BX_val]; rfl
  have h2 : fl BY = baseK.2 := by unfold fl; rw [BY_val]; rfl
  exact ⟨by rw [← h1, cx_fl BX_ok], by rw [← h2, cx_fl BY_ok]⟩
theorem okPBase (w : World) (hX : Vr w 0 (I64 BX)) (hY : Vr w 1 (I64 BY)) : Calls Tryd.prog 25 #[] w fun e w' => ∃ a1 c1 b1 d1, e = .returned (.agg #[.slice a1 16 c1, .slice b1 16 d1]) ∧ PI w' a1 c1 b1 d1 baseK ∧ Below w.heap.size w w' := by
  refine (implPtBase w hX hY).mono ?_
  rintro e w1 ⟨v, rfl, hv, hb⟩
  obtain ⟨a1, c1, b1, d1, rfl, hp⟩ := PI.of (P := baseK) hv base_lists.1 base_lists.2
  exact ⟨a1, c1, b1, d1, rfl, hp, hb⟩
end
end Go.Proofs.YtoblilngppjmhaaDoor
namespace Go.Proofs.YtoblilngppjmhaaDoor
open Go.RowKit
set_option maxRecDepth 100000
set_option maxHeartbeats 4000000
set_option linter.unusedSectionVars false

theorem pow_emod6 (x : Int) (n : Nat) : (x % P25519) ^ n % P25519 = x ^ n % P25519 := by
  induction n with
  | zero => simp
  | succ n ih => rw [Int.pow_succ, Int.pow_succ, Int.mul_emod, ih, Int.emod_emod, ← Int.mul_emod]
/-- A square has a root. -/
theorem rtOk_sq {b : Int} (h0 : 0 ≤ b) : rtOk (red (b * b)) = true := by
  have hr : rt1 (red (b * b)) = red ((b * b) ^ eRt) := by
    unfold rt1 red
    rw [show val (lim 16 (b * b % P25519)) = b * b % P25519 from val_red (b * b), pow_emod6]
  have hsq : ∀ x : Int, sqF (red x) = red (x * x) := by
    intro x; unfold sqF; rw [val_red, red, red, ← Int.mul_emod]
  have hmq : red (val (red ((b * b) ^ eRt)) * val QL) = red ((b * b) ^ eRt * qN) := by
    rw [val_red, QL_val, red, red, Int.mul_emod, Int.emod_emod, ← Int.mul_emod]
  unfold rtOk rt2
  rw [hr, hsq]
  by_cases h : red ((b * b) ^ eRt * (b * b) ^ eRt) = red (b * b)
  · rw [if_pos h, hsq, h]; simp
  · rw [if_neg h, hmq, hsq]
    rcases root_int h0 with h1 | h1
    · exact absurd (by unfold red; rw [h1]) h
    · have : red ((b * b) ^ eRt * qN * ((b * b) ^ eRt * qN)) = red (b * b) := by unfold red; rw [h1]
      rw [this]; simp
section
variable [NeZero pN]
theorem neg_sq (a : KF) : (0 - a) * (0 - a) = a * a := by grind
/-- The square of the root is what it is of. -/
theorem rt3_fl {a : List Int} (h : rtOk a = true) : fl (rt3 a) * fl (rt3 a) = fl a := by
  have hsq : red (val (rt2 a) * val (rt2 a)) = a := by
    unfold rtOk at h
    exact of_decide_eq_true h
  have h2 : fl (rt2 a) * fl (rt2 a) = fl a := by rw [← fl_mul, hsq]
  obtain ⟨l2, m2, v2⟩ := (feOk_iff _).1 (rt2_ok6 a)
  have n2 := val_nonneg (fun x hx => (m2 x hx).1)
  unfold rt3
  split
  · have e : fl (tk16 PL (rt2 a)) = 0 - fl (rt2 a) := by
      have hv : val (tk16 PL (rt2 a)) = P25519 - val (rt2 a) := by
        rw [tk16_lim PL_len l2, PL_val, val_lim, p256]
        exact Int.emod_eq_of_lt (by omega) (by unfold P25519; omega)
      unfold fl
      rw [hv, fe_sub]
      have : fe P25519 = 0 := fe_nz.2 (Int.emod_self)
      rw [this]
    rw [e, neg_sq, h2]
  · exact h2
theorem xR_fl {y : List Int} {o : Int} (h : okR y o = true) : fl (xR y o) * fl (xR y o) = fl (sqx y) := by
  have hk : rtOk (sqx y) = true := by unfold okR at h; simp only [Bool.and_eq_true] at h; exact h.1
  have e := (xR_ok h).2.1
  rw [e]
  split
  · rw [fl_sub, fl_zero, neg_sq]; exact rt3_fl hk
  · exact rt3_fl hk
/-- The divisor is never nought. -/
theorem und_ne (y : KF) : dK * (y * y) + 1 ≠ 0 := by
  intro h0
  have hi := im_K
  have h1 : 1 + dK * (y * y) = 0 := by grind
  have : iK * iK = dK * (y * y) := by grind
  have hy := nsq_K _ _ this
  exact one_K (one_nought dK y h1 hy)
theorem sqx_fl (y : List Int) : fl (sqx y) = (fl y * fl y - 1) * ivK (dK * (fl y * fl y) + 1) := by
  unfold sqx ovr und
  rw [fl_mul, fl_sub, fl_mul, fl_inv, fl_add, fl_mul, fl_mul, fl_one, fl_DL]
theorem on_alg {x y d u : KF} (hu : (d * (y * y) + 1) * u = 1) : y * y - x * x = 1 + d * (x * x) * (y * y) ↔ x * x = (y * y - 1) * u := by
  constructor
  · intro h
    have h2 : x * x * (d * (y * y) + 1) = y * y - 1 := by grind
    have h3 : x * x * ((d * (y * y) + 1) * u) = (y * y - 1) * u := by rw [← h2]; grind
    rw [hu] at h3
    grind
  · intro h
    have h2 : x * x * (d * (y * y) + 1) = (y * y - 1) * (u * (d * (y * y) + 1)) := by rw [h]; grind
    have h3 : u * (d * (y * y) + 1) = 1 := by grind
    rw [h3] at h2
    grind
theorem on_sqx (x y : List Int) : On dK (fl x, fl y) ↔ fl x * fl x = fl (sqx y) := by
  rw [sqx_fl]
  exact on_alg (ivK_inv _ (und_ne _))
theorem fl_valI {l : List Int} (h : feOk l = true) : ((fl l).val : Int) = val l := by
  obtain ⟨_, h2, h3⟩ := (feOk_iff l).1 h
  unfold fl
  rw [fe_val]
  exact Int.emod_eq_of_lt (val_nonneg (fun x hx => (h2 x hx).1)) h3
/-- Whatever bytes are read as a point are just its bytes. -/
theorem pt_rd {zs : List Int} (hb : ∀ x ∈ zs, 0 ≤ x ∧ x < 256) (h : rdOk6 zs = true) : ptOk (rdX6 zs) (rdY6 zs) = true ∧ ptBt (rdX6 zs) (rdY6 zs) = zs ∧ (rdX6 zs).length = 16 ∧ (rdY6 zs).length = 16 := by
  obtain ⟨h1, h2, h3⟩ := rdOk6_parts h
  have hX : rdX6 zs = xR (yR zs) (odd6 zs) := by unfold rdX6; rw [if_pos h]
  have hY : rdY6 zs = yR zs := by unfold rdY6; rw [if_pos h]
  obtain ⟨kx, _, kp⟩ := xR_ok h3
  have ky := yR_ok hb h2
  have hpar := kp (odd6_two hb)
  rw [hX, hY]
  refine ⟨(ptOk_iff _ _).2 ⟨kx, ky, (onB_iff _ _).2 ((on_sqx _ _).2 (xR_fl h3))⟩, ?_, feOk_len kx, feOk_len ky⟩
  have hlen : (lowB zs).length = 32 := by unfold lowB; simp [h1]
  have e : btL (yR zs) = lowB zs := bt_rd hlen (lowB_byte hb)
  have h31 := gD_u8 hb 31
  have hlp := low_val (feOk_len kx)
  have e31 : (lowB zs).getD 31 0 = zs.getD 31 0 % 128 := by unfold lowB; simp [List.getD, h1]
  unfold ptBt
  rw [e, e31, ← hlp, hpar]
  unfold odd6 lowB
  rw [List.set_set]
  have e2 : zs.getD 31 0 % 128 + zs.getD 31 0 / 128 * 128 = zs.getD 31 0 := by omega
  rw [e2]
  have hlt : 31 < zs.length := by omega
  rw [List.getD, List.getElem?_eq_getElem hlt]
  exact List.set_getElem_self hlt
/-- A point comes back from its bytes. -/
theorem rd_pt {xs ys : List Int} (h : ptOk xs ys = true) : rdOk6 (ptBt xs ys) = true ∧ rdX6 (ptBt xs ys) = xs ∧ rdY6 (ptBt xs ys) = ys := by
  obtain ⟨kx, ky, hon⟩ := (ptOk_iff _ _).1 h
  have lx := feOk_len kx
  have ly := feOk_len ky
  have top := bt_top ky
  have hbl : (btL ys).length = 32 := by rw [btL_len, ly]
  have hlen : (ptBt xs ys).length = 32 := ptBt_len ly
  have hpar : xs.getD 0 0 % 2 = 0 ∨ xs.getD 0 0 % 2 = 1 := by omega
  have g31 : (ptBt xs ys).getD 31 0 = (btL ys).getD 31 0 + xs.getD 0 0 % 2 * 128 := by unfold ptBt; simp [List.getD, hbl]
  have hod : odd6 (ptBt xs ys) = xs.getD 0 0 % 2 := by unfold odd6; rw [g31]; omega
  have hlow : lowB (ptBt xs ys) = btL ys := by
    unfold lowB
    rw [g31, show ((btL ys).getD 31 0 + xs.getD 0 0 % 2 * 128) % 128 = (btL ys).getD 31 0 by omega]
    unfold ptBt
    rw [List.set_set]
    have hlt : 31 < (btL ys).length := by omega
    rw [List.getD, List.getElem?_eq_getElem hlt]
    exact List.set_getElem_self hlt
  have hy : yR (ptBt xs ys) = ys := by unfold yR; rw [hlow]; exact rd_bt ly
  have hsq : fl xs * fl xs = fl (sqx ys) := (on_sqx _ _).1 ((onB_iff _ _).1 hon)
  have hs2 : sqx ys = red (val xs * val xs) := by
    refine fl_inj (ok_red _) (ok_red _) ?_
    rw [fl_mul]; exact hsq.symm
  have h0 := val_nonneg (fun x hx => ((feOk_iff xs).1 kx).2.1 x hx |>.1)
  have hrt : rtOk (sqx ys) = true := by rw [hs2]; exact rtOk_sq h0
  have hlp := low_val lx
  have hok : okR ys (xs.getD 0 0 % 2) = true := by
    unfold okR
    rw [hrt]
    by_cases hz : rt3 (sqx ys) = Z16
    · have hr := rt3_fl hrt
      have hz0 : fl Z16 = 0 := by
        have hh : lim 16 0 = Z16 := by decide
        rw [← hh]; exact fl_zero
      rw [hz, hz0, ← hsq] at hr
      have hx0 : fl xs = 0 := by
        have : fl xs * fl xs = 0 := by rw [← hr]; grind
        rcases nz_K this with h | h <;> exact h
      have hv := fl_valI kx
      rw [hx0] at hv
      have hv0 : val xs = 0 := by rw [← hv]; rfl
      have : xs.getD 0 0 % 2 = 0 := by rw [← hlp, hv0]; rfl
      rw [this]
      simp
    · simp [hz]
  obtain ⟨kr, _, kp⟩ := xR_ok hok
  have hp := kp hpar
  have hx : xR ys (xs.getD 0 0 % 2) = xs := by
    refine fl_inj kr kx (root_one ?_ ?_)
    · rw [xR_fl hok, hsq]
    · rw [fl_valI kr, fl_valI kx, hp, hlp]
  have hr : rdOk6 (ptBt xs ys) = true := by
    unfold rdOk6
    rw [hy, hod, hok, hlen]
    simp [((feOk_iff ys).1 ky).2.2]
  exact ⟨hr, by unfold rdX6; rw [if_pos hr, hy, hod, hx], by unfold rdY6; rw [if_pos hr, hy]⟩
end
end Go.Proofs.YtoblilngppjmhaaDoor
namespace Go.Proofs.YtoblilngppjmhaaDoor
open Go.RowKit
set_option maxRecDepth 100000

set_option maxHeartbeats 4000000 in
theorem specTwice (a : List Int) (b : Int) (w : World) (ha : a.length = 16) (la : Lm a) (va : val a < qO) (hb0 : 0 ≤ b) (hb1 : b ≤ 1) :
    Calls Tryd.prog 148 #[.agg (I64 a).toArray, .int .i64 b] w fun e w' => e = .returned (.agg (I64 (redO (2 * val a + b))).toArray) ∧ Below w.heap.size w w' := by
  obtain ⟨zs, hzs⟩ : ∃ zs, zs = a.map (fun x => 2 * x) := ⟨_, rfl⟩
  have hzl : zs.length = 16 := by rw [hzs]; simp [ha]
  have hzd : Dp zs := by rw [hzs]; exact dp_map la
  have hzv : val zs + b = 2 * val a + b := by rw [hzs]; rw [map2_val]
  have hzx : ∀ k, k < 16 → zs.getD k 0 = 2 * a.getD k 0 := by
    intro k hk
    rw [hzs]
    simp [List.getD, show k < a.length by omega]
  obtain ⟨t, ht⟩ : ∃ t, t = 2 * val a + b := ⟨_, rfl⟩
  have n0 := val_nonneg (fun x hx => (la x hx).1)
  skip
  have ht0 : 0 ≤ t := by rw [ht]; omega
  have ht1 : t < 2 * qO := by rw [ht]; omega
  have hFe : cps zs b = lim 16 t := by rw [cps_lim, hzl, hzv, ht]
  have hFl : (cps zs b).length = 16 := by rw [cps_len, hzl]
  have hFm : Lm (cps zs b) := by rw [hFe]; exact lim_lm _ _
  have hFv : val (cps zs b) = t := by rw [hFe]; exact val_lim16 ht0 ht1
  have hless := lessO ht0 ht1
  rw [← ht]
  have HY : Hid (t < qO → cps zs b = redO t) := by unfold Hid; intro h; rw [hFe]; exact hless.1 h
  have HN : Hid (¬ t < qO → tk16 (cps zs b) OL = redO t) := by unfold Hid; intro h; rw [tk16_lim hFl OL_len, hFv, OL_val]; exact hless.2 h
  have HZX : Hid _ := hzx
  have HFV : Hid _ := hFv
  have HZD : Hid _ := hzd
  clear hzs hzv hzx ht ht0 ht1 hFe hFv hless n0 hzd
  obtain ⟨W, hW⟩ : ∃ W, W = (w.alloc (.cells (I64 a).toArray 82)).alloc (.cells #[.int .i64 0, .int .i64 0, .int .i64 0, .int .i64 0, .int .i64 0, .int .i64 0, .int .i64 0, .int .i64 0, .int .i64 0, .int .i64 0, .int .i64 0, .int .i64 0, .int .i64 0, .int .i64 0, .int .i64 0, .int .i64 0] 82) := ⟨_, rfl⟩
  have h0 : Arr W w.heap.size 82 (I64 (cps (zs.take 0) b ++ a.drop 0)) := by rw [hW]; exact (Arr.new w (I64 a) _).alloc _
  have h2 : Arr W (w.heap.size + 1) 82 (I64 Z16) := by
    rw [hW]
    have := Arr.new (w.alloc (.cells (I64 a).toArray 82)) (I64 Z16) 82
    rw [World.size_alloc] at this
    exact this
  have hBl : Below w.heap.size w W := by rw [hW]; exact ((Below.refl _ _).alloc (Nat.le_refl _) _).alloc (by simp) _
  obtain ⟨A, hA⟩ : ∃ A, A = (I64 a).toArray := ⟨_, rfl⟩
  rw [← hA] at hW ⊢
  have HA : Hid _ := hA
  clear hA
  go_enter Tryd.func148, Tryd.ntmps148
  go_wp2
  rw [← hW]
  clear hW
  go_loopw [5, 6] (fun c i wr => ∃ (k : Nat) (d : Int), k ≤ 16 ∧ c = .int .i64 d ∧ d = cpc (zs.take k) b ∧ i = .int .i64 k ∧ Arr wr w.heap.size 82 (I64 (cps (zs.take k) b ++ a.drop k)) ∧ Arr wr (w.heap.size + 1) 82 (I64 Z16) ∧ Below w.heap.size w wr) (fun _ i _ => 16 - (intOf i).toNat)
  case atStart => exact ⟨0, b, by omega, rfl, by simp [cpc], rfl, h0, h2, hBl⟩
  case round =>
    clear h0 h2 hBl
    obtain ⟨k, d, hk, rfl, hd, rfl, h0, h2, hBl⟩ := hrel
    have hfl : (cps (zs.take k) b).length = k := by rw [cps_len]; simp; omega
    have hdb := cpc_one (l := zs.take k) (fun x hx => HZD.out x (List.mem_of_mem_take hx)) (c := b) hb0 hb1
    rw [← hd] at hdb
    by_cases hlt : k < 16
    · obtain ⟨x, hx⟩ : ∃ x, x = a.getD k 0 := ⟨_, rfl⟩
      have cx : wr.cell? ⟨w.heap.size, k, none⟩ = some (.int .i64 x) := by
        rw [h0.i64 k (by rw [len_app hfl (by omega)]; omega), get_app hfl, hx]
      have bx := gD_lm la k
      rw [← hx] at bx
      have hz := HZX.out k hlt
      rw [← hx] at hz
      have hts := take_app zs k (by omega)
      rw [hz] at hts
      have hs1 : cps (zs.take (k + 1)) b = cps (zs.take k) b ++ [(2 * x + d) % 65536] := by rw [hts, cps_snoc, hd]
      have hs2 : cpc (zs.take (k + 1)) b = (2 * x + d) / 65536 := by rw [hts, cpc_snoc, hd]
      have hk16 : (k : Int) < 16 := by omega
      have hk0 : (0 : Int) ≤ (k : Int) := by omega
      have hfz := h0.frozen k
      have h0' := h0.set k (.int .i64 ((2 * x + d) % 65536))
      rw [set_app hfl (show k < a.length by omega), ← hs1] at h0'
      have h2' := h2.other ⟨w.heap.size, k, none⟩ (.int .i64 ((2 * x + d) % 65536)) (by simp)
      have hb' := hBl.setCell (p := ⟨w.heap.size, k, none⟩) (Nat.le_refl _) (.int .i64 ((2 * x + d) % 65536))
      have s0 : IntKind.i64.wrap (2 * x) = 2 * x := by rw [IntKind.wrap_i64]; omega
      have s1 : IntKind.i64.wrap (2 * x + d) = 2 * x + d := by rw [IntKind.wrap_i64]; omega
      have s2 : bits .and .i64 (2 * x + d) 65535 = (2 * x + d) % 65536 := i64_low16 (by omega) (by omega)
      have H0 : Hid _ := h0'
      have H2 : Hid _ := h2'
      have HB : Hid _ := hb'
      have HC : Hid _ := hs2
      clear h0' h2' hb' h0 h2 hBl hx hd hz hts hs1 hs2
      go_wp2
      go_roundw
      case rel => exact ⟨k + 1, (2 * x + d) / 65536, by omega, rfl, HC.out.symm, by go_num, H0.out, H2.out, HB.out⟩
      case measure => simp [intOf]; omega
    · obtain rfl : k = 16 := by omega
      rw [List.take_of_length_le (by omega), List.drop_eq_nil_of_le (by omega), List.append_nil] at h0
      obtain ⟨F, hF⟩ : ∃ F, F = cps zs b := ⟨_, rfl⟩
      rw [← hF] at h0 hFl hFm HY HN HFV
      clear hF hd hdb hfl
      go_wp2_with fail
      refine (specOrder _).mono ?_
      rintro e w1 ⟨rfl, hb1⟩
      have hB1 := hBl.trans (hb1.mono hBl.size)
      have h01 := h0.kept hb1
      have h21 := h2.kept hb1
      have hsz1 := h21.lt
      clear h0 h2 hBl hb1
      obtain ⟨W2, hW2⟩ : ∃ W2, W2 = (w1.alloc (.cells #[.int .i64 0, .int .i64 0, .int .i64 0, .int .i64 0, .int .i64 0, .int .i64 0, .int .i64 0, .int .i64 0, .int .i64 0, .int .i64 0, .int .i64 0, .int .i64 0, .int .i64 0, .int .i64 0, .int .i64 0, .int .i64 0] 82)).setRow w1.heap.size (I64 OL).toArray := ⟨_, rfl⟩
      have hz1 : Arr (w1.alloc (.cells #[.int .i64 0, .int .i64 0, .int .i64 0, .int .i64 0, .int .i64 0, .int .i64 0, .int .i64 0, .int .i64 0, .int .i64 0, .int .i64 0, .int .i64 0, .int .i64 0, .int .i64 0, .int .i64 0, .int .i64 0, .int .i64 0] 82)) w1.heap.size 82 (I64 Z16) := Arr.new w1 (I64 Z16) _
      have hp2 : Arr W2 w1.heap.size 82 (I64 OL) := by rw [hW2]; exact hz1.row (I64 OL)
      have h02 : Arr W2 w.heap.size 82 (I64 F) := by rw [hW2]; exact (h01.alloc _).rowOther _ _ (by omega)
      have h22 : Arr W2 (w.heap.size + 1) 82 (I64 Z16) := by rw [hW2]; exact (h21.alloc _).rowOther _ _ (by omega)
      have hB2 : Below w.heap.size w W2 := by rw [hW2]; exact setRow_below (hB1.alloc hB1.size _) _ _ hB1.size
      have hiF : (Tryd.prog.info? 82).map (·.size) = some (I64 F).toArray.size := by simpa [hFl] using infoE
      have h02' := hW2 ▸ h02
      have hp2' := hW2 ▸ hp2
      have HW2 : Hid _ := hW2
      clear h01 h21 hB1 hW2
      go_wp2_with (first
        | (refine wpList_store_row rfl 82 _ _ rfl w1.heap.size (I64 OL).toArray rfl rfl 82 (I64 Z16).toArray hz1 infoE rfl (by simp [OL, Value.oneCell']) ?_)
        | (refine wpList_load_row rfl 82 _ rfl w.heap.size rfl 82 (I64 F).toArray (0, 0) _ h02' Tryd.underlying82 rfl hiF ?_)
        | (refine wpList_load_row rfl 82 _ rfl w1.heap.size rfl 82 (I64 OL).toArray (0, 0) _ hp2' Tryd.underlying82 rfl infoE ?_))
      rw [← HW2.out]
      clear HW2 h02' hp2' hz1
      refine (specLess F OL _ hFl OL_len hFm OL_lm).mono ?_
      rintro e w3 ⟨rfl, hb3⟩
      have h03 := h02.kept hb3
      have h23 := h22.kept hb3
      have hp3 := hp2.kept hb3
      have hB3 := hB2.trans (hb3.mono hB2.size)
      rw [OL_val, HFV.out]
      clear h02 h22 hp2 hB2 hb3
      by_cases hlp : t < qO
      · have hd : decide (t < qO) = true := by simp [hlp]
        rw [hd]
        have hFR := HY.out hlp
        have h23' := h23.row (I64 F)
        have hb' := setRow_below hB3 (w.heap.size + 1) (I64 F).toArray (by omega)
        clear hd hlp
        go_wp2_with (first
          | (refine wpList_load_row rfl 82 _ rfl w.heap.size rfl 82 (I64 F).toArray (0, 0) _ h03 Tryd.underlying82 rfl hiF ?_)
          | (refine wpList_store_row rfl 82 _ _ rfl (w.heap.size + 1) (I64 F).toArray rfl rfl 82 _ h23 hiF (by simp [hFl]) (by simp [Value.oneCell']) ?_))
        exact bodyPost_ret (results_cell_row rfl _ _ (w.heap.size + 1) 82 (I64 F).toArray (0, 0) _ rfl h23' Tryd.underlying82 rfl hiF) rfl ⟨by rw [← hFR], hb'⟩
      · have hd : decide (t < qO) = false := by simp [hlp]
        rw [hd]
        have hGR := HN.out (by omega)
        clear hd hlp
        go_wp2_with (first
          | (refine wpList_load_row rfl 82 _ rfl w.heap.size rfl 82 (I64 F).toArray (0, 0) _ h03 Tryd.underlying82 rfl hiF ?_)
          | (refine wpList_load_row rfl 82 _ rfl w1.heap.size rfl 82 (I64 OL).toArray (0, 0) _ hp3 Tryd.underlying82 rfl infoE ?_))
        refine (specTake F OL _ hFl OL_len hFm OL_lm).mono ?_
        rintro e w4 ⟨rfl, hb4⟩
        have h04 := h03.kept hb4
        have h24 := h23.kept hb4
        have hB4 := hB3.trans (hb4.mono hB3.size)
        have hGl : (tk16 F OL).length = 16 := by rw [tk16_lim hFl OL_len, lim_len]
        obtain ⟨G, hG⟩ : ∃ G, G = tk16 F OL := ⟨_, rfl⟩
        rw [← hG] at hGl hGR ⊢
        have hiG : (Tryd.prog.info? 82).map (·.size) = some (I64 G).toArray.size := by simpa [hGl] using infoE
        have HGR : Hid _ := hGR
        clear hGR h03 h23 hp3 hB3 hb4 hG
        have h05 := h04.row (I64 G)
        have h25 := h24.rowOther w.heap.size (I64 G).toArray (by omega)
        have hB5 := setRow_below hB4 w.heap.size (I64 G).toArray (Nat.le_refl _)
        have h26 := h25.row (I64 G)
        have hb' := setRow_below hB5 (w.heap.size + 1) (I64 G).toArray (by omega)
        go_wp2_with (first
          | (refine wpList_store_row rfl 82 _ _ rfl w.heap.size (I64 G).toArray rfl rfl 82 _ h04 hiG (by simp [hGl, hFl]) (by simp [Value.oneCell']) ?_)
          | (refine wpList_load_row rfl 82 _ rfl w.heap.size rfl 82 (I64 G).toArray (0, 0) _ h05 Tryd.underlying82 rfl hiG ?_)
          | (refine wpList_store_row rfl 82 _ _ rfl (w.heap.size + 1) (I64 G).toArray rfl rfl 82 _ h25 hiG (by simp [hGl]) (by simp [Value.oneCell']) ?_))
        exact bodyPost_ret (results_cell_row rfl _ _ (w.heap.size + 1) 82 (I64 G).toArray (0, 0) _ rfl h26 Tryd.underlying82 rfl hiG) rfl ⟨by rw [← HGR.out], hb'⟩
end Go.Proofs.YtoblilngppjmhaaDoor

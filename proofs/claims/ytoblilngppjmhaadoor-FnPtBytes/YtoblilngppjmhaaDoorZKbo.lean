/-
  What is proved here: the program's PtBase answers the base; where its variables hold it; plain mathematics of a point's bytes: a point comes back from its bytes; whatever bytes are those of a point are just its bytes; no program is spoken of; the contract of the specification's l5twice: twice a multiplier and a bit, modulo the order. the contract of the specification's l5mod: a number in at most 33 parts modulo the order; the contract of the specification's l5draw: a multiplier, drawn out of a code. a row of bytes of its own beside a cursor; the contract of the specification's DrawPtRead; the contract of the laws' same: two slices of bytes are held against each other.
-/
import Derived.Test.YtoblilngppjmhaaDoorZOm0
import Derived.Test.YtoblilngppjmhaaDoorZOhb
import Derived.Test.YtoblilngppjmhaaDoorZHdm
import Derived.Test.YtoblilngppjmhaaDoorZRbt
import Derived.Test.YtoblilngppjmhaaDoorZUl
import Derived.Test.YtoblilngppjmhaaDoorZKb
import Derived.Test.YtoblilngppjmhaaDoorZFs
import Derived.Test.YtoblilngppjmhaaDoorZFn
import Derived.Test.YtoblilngppjmhaaDoorZHdq
import Derived.Test.YtoblilngppjmhaaDoorZHrd
import Derived.Test.YtoblilngppjmhaaDoorZApp
import Derived.Test.YtoblilngppjmhaaDoorZOhy
import Derived.Test.YtoblilngppjmhaaDoorZKit
import Derived.Laws.BytesArg
namespace Go.Proofs.YtoblilngppjmhaaDoor
open Go.RowKit
set_option maxRecDepth 100000
set_option maxHeartbeats 4000000
set_option linter.unusedSectionVars false

theorem BX_val : val BX = (bxN : Int) := by decide
theorem BY_val : val BY = (byN : Int) := by decide
section
variable [NeZero pN]
theorem base_lists : BX = cx baseK.1 ∧ BY = cx baseK.2 := by
  have h1 : fl BX = baseK.1 := by unfold fl; rw [BX_val]; rfl
  have h2 : fl BY = baseK.2 := by unfold fl; rw [BY_val]; rfl
  exact ⟨by rw [← h1, cx_fl BX_ok], by rw [← h2, cx_fl BY_ok]⟩
theorem okPBase (w : World) (hX : Vr w 0 (I64 BX)) (hY : Vr w 1 (I64 BY)) : Calls Tryd.prog 25 #[] w fun e w' => ∃ a1 c1 b1 d1, e = .returned (.agg #[.slice a1 16 c1, .slice b1 16 d1]) ∧ PI w' a1 c1 b1 d1 baseK ∧ Below w.heap.size w w' := by
  refine (implPtBase w hX hY).mono ?_
  rintro e w1 ⟨v, rfl, hv, hb⟩
  obtain ⟨a1, c1, b1, d1, rfl, hp⟩ := PI.of (P := baseK) hv base_lists.1 base_lists.2
  exact ⟨a1, c1, b1, d1, rfl, hp, hb⟩
end
end Go.Proofs.YtoblilngppjmhaaDoor
namespace Go.Proofs.YtoblilngppjmhaaDoor
open Go.RowKit
set_option maxRecDepth 100000
set_option maxHeartbeats 4000000
set_option linter.unusedSectionVars false

theorem pow_emod6 (x : Int) (n : Nat) : (x % P25519) ^ n % P25519 = x ^ n % P25519 := by
  induction n with
  | zero => simp
  | succ n ih => rw [Int.pow_succ, Int.pow_succ, Int.mul_emod, ih, Int.emod_emod, ← Int.mul_emod]
/-- A square has a root. -/
theorem rtOk_sq {b : Int} (h0 : 0 ≤ b) : rtOk (red (b * b)) = true := by
  have hr : rt1 (red (b * b)) = red ((b * b) ^ eRt) := by
    unfold rt1 red
    rw [show val (lim 16 (b * b % P25519)) = b * b % P25519 from val_red (b * b), pow_emod6]
  have hsq : ∀ x : Int, sqF (red x) = red (x * x) := by
    intro x; unfold sqF; rw [val_red, red, red, ← Int.mul_emod]
  have hmq : red (val (red ((b * b) ^ eRt)) * val QL) = red ((b * b) ^ eRt * qN) := by
    rw [val_red, QL_val, red, red, Int.mul_emod, Int.emod_emod, ← Int.mul_emod]
  unfold rtOk rt2
  rw [hr, hsq]
  by_cases h : red ((b * b) ^ eRt * (b * b) ^ eRt) = red (b * b)
  · rw [if_pos h, hsq, h]; simp
  · rw [if_neg h, hmq, hsq]
    rcases root_int h0 with h1 | h1
    · exact absurd (by unfold red; rw [h1]) h
    · have : red ((b * b) ^ eRt * qN * ((b * b) ^ eRt * qN)) = red (b * b) := by unfold red; rw [h1]
      rw [this]; simp
section
variable [NeZero pN]
theorem neg_sq (a : KF) : (0 - a) * (0 - a) = a * a := by grind
/-- The square of the root is what it is of. -/
theorem rt3_fl {a : List Int} (h : rtOk a = true) : fl (rt3 a) * fl (rt3 a) = fl a := by
  have hsq : red (val (rt2 a) * val (rt2 a)) = a := by
    unfold rtOk at h
    exact of_decide_eq_true h
  have h2 : fl (rt2 a) * fl (rt2 a) = fl a := by rw [← fl_mul, hsq]
  obtain ⟨l2, m2, v2⟩ := (feOk_iff _).1 (rt2_ok6 a)
  have n2 := val_nonneg (fun x hx => (m2 x hx).1)
  unfold rt3
  split
  · have e : fl (tk16 PL (rt2 a)) = 0 - fl (rt2 a) := by
      have hv : val (tk16 PL (rt2 a)) = P25519 - val (rt2 a) := by
        rw [tk16_lim PL_len l2, PL_val, val_lim, p256]
        exact Int.emod_eq_of_lt (by omega) (by unfold P25519; omega)
      unfold fl
      rw [hv, fe_sub]
      have : fe P25519 = 0 := fe_nz.2 (Int.emod_self)
      rw [this]
    rw [e, neg_sq, h2]
  · exact h2
theorem xR_fl {y : List Int} {o : Int} (h : okR y o = true) : fl (xR y o) * fl (xR y o) = fl (sqx y) := by
  have hk : rtOk (sqx y) = true := by unfold okR at h; simp only [Bool.and_eq_true] at h; exact h.1
  have e := (xR_ok h).2.1
  rw [e]
  split
  · rw [fl_sub, fl_zero, neg_sq]; exact rt3_fl hk
  · exact rt3_fl hk
/-- The divisor is never nought. -/
theorem und_ne (y : KF) : dK * (y * y) + 1 ≠ 0 := by
  intro h0
  have hi := im_K
  have h1 : 1 + dK * (y * y) = 0 := by grind
  have : iK * iK = dK * (y * y) := by grind
  have hy := nsq_K _ _ this
  exact one_K (one_nought dK y h1 hy)
theorem sqx_fl (y : List Int) : fl (sqx y) = (fl y * fl y - 1) * ivK (dK * (fl y * fl y) + 1) := by
  unfold sqx ovr und
  rw [fl_mul, fl_sub, fl_mul, fl_inv, fl_add, fl_mul, fl_mul, fl_one, fl_DL]
theorem on_alg {x y d u : KF} (hu : (d * (y * y) + 1) * u = 1) : y * y - x * x = 1 + d * (x * x) * (y * y) ↔ x * x = (y * y - 1) * u := by
  constructor
  · intro h
    have h2 : x * x * (d * (y * y) + 1) = y * y - 1 := by grind
    have h3 : x * x * ((d * (y * y) + 1) * u) = (y * y - 1) * u := by rw [← h2]; grind
    rw [hu] at h3
    grind
  · intro h
    have h2 : x * x * (d * (y * y) + 1) = (y * y - 1) * (u * (d * (y * y) + 1)) := by rw [h]; grind
    have h3 : u * (d * (y * y) + 1) = 1 := by grind
    rw [h3] at h2
    grind
theorem on_sqx (x y : List Int) : On dK (fl x, fl y) ↔ fl x * fl x = fl (sqx y) := by
  rw [sqx_fl]
  exact on_alg (ivK_inv _ (und_ne _))
theorem fl_valI {l : List Int} (h : feOk l = true) : ((fl l).val : Int) = val l := by
  obtain ⟨_, h2, h3⟩ := (feOk_iff l).1 h
  unfold fl
  rw [fe_val]
  exact Int.emod_eq_of_lt (val_nonneg (fun x hx => (h2 x hx).1)) h3
/-- Whatever bytes are read as a point are just its bytes. -/
theorem pt_rd {zs : List Int} (hb : ∀ x ∈ zs, 0 ≤ x ∧ x < 256) (h : rdOk6 zs = true) : ptOk (rdX6 zs) (rdY6 zs) = true ∧ ptBt (rdX6 zs) (rdY6 zs) = zs ∧ (rdX6 zs).length = 16 ∧ (rdY6 zs).length = 16 := by
  obtain ⟨h1, h2, h3⟩ := rdOk6_parts h
  have hX : rdX6 zs = xR (yR zs) (odd6 zs) := by unfold rdX6; rw [if_pos h]
  have hY : rdY6 zs = yR zs := by unfold rdY6; rw [if_pos h]
  obtain ⟨kx, _, kp⟩ := xR_ok h3
  have ky := yR_ok hb h2
  have hpar := kp (odd6_two hb)
  rw [hX, hY]
  refine ⟨(ptOk_iff _ _).2 ⟨kx, ky, (onB_iff _ _).2 ((on_sqx _ _).2 (xR_fl h3))⟩, ?_, feOk_len kx, feOk_len ky⟩
  have hlen : (lowB zs).length = 32 := by unfold lowB; simp [h1]
  have e : btL (yR zs) = lowB zs := bt_rd hlen (lowB_byte hb)
  have h31 := gD_u8 hb 31
  have hlp := low_val (feOk_len kx)
  have e31 : (lowB zs).getD 31 0 = zs.getD 31 0 % 128 := by unfold lowB; simp [List.getD, h1]
  unfold ptBt
  rw [e, e31, ← hlp, hpar]
  unfold odd6 lowB
  rw [List.set_set]
  have e2 : zs.getD 31 0 % 128 + zs.getD 31 0 / 128 * 128 = zs.getD 31 0 := by omega
  rw [e2]
  have hlt : 31 < zs.length := by omega
  rw [List.getD, List.getElem?_eq_getElem hlt]
  exact List.set_getElem_self hlt
/-- A point comes back from its bytes. -/
theorem rd_pt {xs ys : List Int} (h : ptOk xs ys = true) : rdOk6 (ptBt xs ys) = true ∧ rdX6 (ptBt xs ys) = xs ∧ rdY6 (ptBt xs ys) = ys := by
  obtain ⟨kx, ky, hon⟩ := (ptOk_iff _ _).1 h
  have lx := feOk_len kx
  have ly := feOk_len ky
  have top := bt_top ky
  have hbl : (btL ys).length = 32 := by rw [btL_len, ly]
  have hlen : (ptBt xs ys).length = 32 := ptBt_len ly
  have hpar : xs.getD 0 0 % 2 = 0 ∨ xs.getD 0 0 % 2 = 1 := by omega
  have g31 : (ptBt xs ys).getD 31 0 = (btL ys).getD 31 0 + xs.getD 0 0 % 2 * 128 := by unfold ptBt; simp [List.getD, hbl]
  have hod : odd6 (ptBt xs ys) = xs.getD 0 0 % 2 := by unfold odd6; rw [g31]; omega
  have hlow : lowB (ptBt xs ys) = btL ys := by
    unfold lowB
    rw [g31, show ((btL ys).getD 31 0 + xs.getD 0 0 % 2 * 128) % 128 = (btL ys).getD 31 0 by omega]
    unfold ptBt
    rw [List.set_set]
    have hlt : 31 < (btL ys).length := by omega
    rw [List.getD, List.getElem?_eq_getElem hlt]
    exact List.set_getElem_self hlt
  have hy : yR (ptBt xs ys) = ys := by unfold yR; rw [hlow]; exact rd_bt ly
  have hsq : fl xs * fl xs = fl (sqx ys) := (on_sqx _ _).1 ((onB_iff _ _).1 hon)
  have hs2 : sqx ys = red (val xs * val xs) := by
    refine fl_inj (ok_red _) (ok_red _) ?_
    rw [fl_mul]; exact hsq.symm
  have h0 := val_nonneg (fun x hx => ((feOk_iff xs).1 kx).2.1 x hx |>.1)
  have hrt : rtOk (sqx ys) = true := by rw [hs2]; exact rtOk_sq h0
  have hlp := low_val lx
  have hok : okR ys (xs.getD 0 0 % 2) = true := by
    unfold okR
    rw [hrt]
    by_cases hz : rt3 (sqx ys) = Z16
    · have hr := rt3_fl hrt
      have hz0 : fl Z16 = 0 := by
        have hh : lim 16 0 = Z16 := by decide
        rw [← hh]; exact fl_zero
      rw [hz, hz0, ← hsq] at hr
      have hx0 : fl xs = 0 := by
        have : fl xs * fl xs = 0 := by rw [← hr]; grind
        rcases nz_K this with h | h <;> exact h
      have hv := fl_valI kx
      rw [hx0] at hv
      have hv0 : val xs = 0 := by rw [← hv]; rfl
      have : xs.getD 0 0 % 2 = 0 := by rw [← hlp, hv0]; rfl
      rw [this]
      simp
    · simp [hz]
  obtain ⟨kr, _, kp⟩ := xR_ok hok
  have hp := kp hpar
  have hx : xR ys (xs.getD 0 0 % 2) = xs := by
    refine fl_inj kr kx (root_one ?_ ?_)
    · rw [xR_fl hok, hsq]
    · rw [fl_valI kr, fl_valI kx, hp, hlp]
  have hr : rdOk6 (ptBt xs ys) = true := by
    unfold rdOk6
    rw [hy, hod, hok, hlen]
    simp [((feOk_iff ys).1 ky).2.2]
  exact ⟨hr, by unfold rdX6; rw [if_pos hr, hy, hod, hx], by unfold rdY6; rw [if_pos hr, hy]⟩
end
end Go.Proofs.YtoblilngppjmhaaDoor
namespace Go.Proofs.YtoblilngppjmhaaDoor
open Go.RowKit
set_option maxRecDepth 100000

set_option maxHeartbeats 4000000 in
theorem specTwice (a : List Int) (b : Int) (w : World) (ha : a.length = 16) (la : Lm a) (va : val a < qO) (hb0 : 0 ≤ b) (hb1 : b ≤ 1) :
    Calls Tryd.prog 148 #[.agg (I64 a).toArray, .int .i64 b] w fun e w' => e = .returned (.agg (I64 (redO (2 * val a + b))).toArray) ∧ Below w.heap.size w w' := by
  obtain ⟨zs, hzs⟩ : ∃ zs, zs = a.map (fun x => 2 * x) := ⟨_, rfl⟩
  have hzl : zs.length = 16 := by rw [hzs]; simp [ha]
  have hzd : Dp zs := by rw [hzs]; exact dp_map la
  have hzv : val zs + b = 2 * val a + b := by rw [hzs]; rw [map2_val]
  have hzx : ∀ k, k < 16 → zs.getD k 0 = 2 * a.getD k 0 := by
    intro k hk
    rw [hzs]
    simp [List.getD, show k < a.length by omega]
  obtain ⟨t, ht⟩ : ∃ t, t = 2 * val a + b := ⟨_, rfl⟩
  have n0 := val_nonneg (fun x hx => (la x hx).1)
  skip
  have ht0 : 0 ≤ t := by rw [ht]; omega
  have ht1 : t < 2 * qO := by rw [ht]; omega
  have hFe : cps zs b = lim 16 t := by rw [cps_lim, hzl, hzv, ht]
  have hFl : (cps zs b).length = 16 := by rw [cps_len, hzl]
  have hFm : Lm (cps zs b) := by rw [hFe]; exact lim_lm _ _
  have hFv : val (cps zs b) = t := by rw [hFe]; exact val_lim16 ht0 ht1
  have hless := lessO ht0 ht1
  rw [← ht]
  have HY : Hid (t < qO → cps zs b = redO t) := by unfold Hid; intro h; rw [hFe]; exact hless.1 h
  have HN : Hid (¬ t < qO → tk16 (cps zs b) OL = redO t) := by unfold Hid; intro h; rw [tk16_lim hFl OL_len, hFv, OL_val]; exact hless.2 h
  have HZX : Hid _ := hzx
  have HFV : Hid _ := hFv
  have HZD : Hid _ := hzd
  clear hzs hzv hzx ht ht0 ht1 hFe hFv hless n0 hzd
  obtain ⟨W, hW⟩ : ∃ W, W = (w.alloc (.cells (I64 a).toArray 82)).alloc (.cells #[.int .i64 0, .int .i64 0, .int .i64 0, .int .i64 0, .int .i64 0, .int .i64 0, .int .i64 0, .int .i64 0, .int .i64 0, .int .i64 0, .int .i64 0, .int .i64 0, .int .i64 0, .int .i64 0, .int .i64 0, .int .i64 0] 82) := ⟨_, rfl⟩
  have h0 : Arr W w.heap.size 82 (I64 (cps (zs.take 0) b ++ a.drop 0)) := by rw [hW]; exact (Arr.new w (I64 a) _).alloc _
  have h2 : Arr W (w.heap.size + 1) 82 (I64 Z16) := by
    rw [hW]
    have := Arr.new (w.alloc (.cells (I64 a).toArray 82)) (I64 Z16) 82
    rw [World.size_alloc] at this
    exact this
  have hBl : Below w.heap.size w W := by rw [hW]; exact ((Below.refl _ _).alloc (Nat.le_refl _) _).alloc (by simp) _
  obtain ⟨A, hA⟩ : ∃ A, A = (I64 a).toArray := ⟨_, rfl⟩
  rw [← hA] at hW ⊢
  have HA : Hid _ := hA
  clear hA
  go_enter Tryd.func148, Tryd.ntmps148
  go_wp2
  rw [← hW]
  clear hW
  go_loopw [5, 6] (fun c i wr => ∃ (k : Nat) (d : Int), k ≤ 16 ∧ c = .int .i64 d ∧ d = cpc (zs.take k) b ∧ i = .int .i64 k ∧ Arr wr w.heap.size 82 (I64 (cps (zs.take k) b ++ a.drop k)) ∧ Arr wr (w.heap.size + 1) 82 (I64 Z16) ∧ Below w.heap.size w wr) (fun _ i _ => 16 - (intOf i).toNat)
  case atStart => exact ⟨0, b, by omega, rfl, by simp [cpc], rfl, h0, h2, hBl⟩
  case round =>
    clear h0 h2 hBl
    obtain ⟨k, d, hk, rfl, hd, rfl, h0, h2, hBl⟩ := hrel
    have hfl : (cps (zs.take k) b).length = k := by rw [cps_len]; simp; omega
    have hdb := cpc_one (l := zs.take k) (fun x hx => HZD.out x (List.mem_of_mem_take hx)) (c := b) hb0 hb1
    rw [← hd] at hdb
    by_cases hlt : k < 16
    · obtain ⟨x, hx⟩ : ∃ x, x = a.getD k 0 := ⟨_, rfl⟩
      have cx : wr.cell? ⟨w.heap.size, k, none⟩ = some (.int .i64 x) := by
        rw [h0.i64 k (by rw [len_app hfl (by omega)]; omega), get_app hfl, hx]
      have bx := gD_lm la k
      rw [← hx] at bx
      have hz := HZX.out k hlt
      rw [← hx] at hz
      have hts := take_app zs k (by omega)
      rw [hz] at hts
      have hs1 : cps (zs.take (k + 1)) b = cps (zs.take k) b ++ [(2 * x + d) % 65536] := by rw [hts, cps_snoc, hd]
      have hs2 : cpc (zs.take (k + 1)) b = (2 * x + d) / 65536 := by rw [hts, cpc_snoc, hd]
      have hk16 : (k : Int) < 16 := by omega
      have hk0 : (0 : Int) ≤ (k : Int) := by omega
      have hfz := h0.frozen k
      have h0' := h0.set k (.int .i64 ((2 * x + d) % 65536))
      rw [set_app hfl (show k < a.length by omega), ← hs1] at h0'
      have h2' := h2.other ⟨w.heap.size, k, none⟩ (.int .i64 ((2 * x + d) % 65536)) (by simp)
      have hb' := hBl.setCell (p := ⟨w.heap.size, k, none⟩) (Nat.le_refl _) (.int .i64 ((2 * x + d) % 65536))
      have s0 : IntKind.i64.wrap (2 * x) = 2 * x := by rw [IntKind.wrap_i64]; omega
      have s1 : IntKind.i64.wrap (2 * x + d) = 2 * x + d := by rw [IntKind.wrap_i64]; omega
      have s2 : bits .and .i64 (2 * x + d) 65535 = (2 * x + d) % 65536 := i64_low16 (by omega) (by omega)
      have H0 : Hid _ := h0'
      have H2 : Hid _ := h2'
      have HB : Hid _ := hb'
      have HC : Hid _ := hs2
      clear h0' h2' hb' h0 h2 hBl hx hd hz hts hs1 hs2
      go_wp2
      go_roundw
      case rel => exact ⟨k + 1, (2 * x + d) / 65536, by omega, rfl, HC.out.symm, by go_num, H0.out, H2.out, HB.out⟩
      case measure => simp [intOf]; omega
    · obtain rfl : k = 16 := by omega
      rw [List.take_of_length_le (by omega), List.drop_eq_nil_of_le (by omega), List.append_nil] at h0
      obtain ⟨F, hF⟩ : ∃ F, F = cps zs b := ⟨_, rfl⟩
      rw [← hF] at h0 hFl hFm HY HN HFV
      clear hF hd hdb hfl
      go_wp2_with fail
      refine (specOrder _).mono ?_
      rintro e w1 ⟨rfl, hb1⟩
      have hB1 := hBl.trans (hb1.mono hBl.size)
      have h01 := h0.kept hb1
      have h21 := h2.kept hb1
      have hsz1 := h21.lt
      clear h0 h2 hBl hb1
      obtain ⟨W2, hW2⟩ : ∃ W2, W2 = (w1.alloc (.cells #[.int .i64 0, .int .i64 0, .int .i64 0, .int .i64 0, .int .i64 0, .int .i64 0, .int .i64 0, .int .i64 0, .int .i64 0, .int .i64 0, .int .i64 0, .int .i64 0, .int .i64 0, .int .i64 0, .int .i64 0, .int .i64 0] 82)).setRow w1.heap.size (I64 OL).toArray := ⟨_, rfl⟩
      have hz1 : Arr (w1.alloc (.cells #[.int .i64 0, .int .i64 0, .int .i64 0, .int .i64 0, .int .i64 0, .int .i64 0, .int .i64 0, .int .i64 0, .int .i64 0, .int .i64 0, .int .i64 0, .int .i64 0, .int .i64 0, .int .i64 0, .int .i64 0, .int .i64 0] 82)) w1.heap.size 82 (I64 Z16) := Arr.new w1 (I64 Z16) _
      have hp2 : Arr W2 w1.heap.size 82 (I64 OL) := by rw [hW2]; exact hz1.row (I64 OL)
      have h02 : Arr W2 w.heap.size 82 (I64 F) := by rw [hW2]; exact (h01.alloc _).rowOther _ _ (by omega)
      have h22 : Arr W2 (w.heap.size + 1) 82 (I64 Z16) := by rw [hW2]; exact (h21.alloc _).rowOther _ _ (by omega)
      have hB2 : Below w.heap.size w W2 := by rw [hW2]; exact setRow_below (hB1.alloc hB1.size _) _ _ hB1.size
      have hiF : (Tryd.prog.info? 82).map (·.size) = some (I64 F).toArray.size := by simpa [hFl] using infoE
      have h02' := hW2 ▸ h02
      have hp2' := hW2 ▸ hp2
      have HW2 : Hid _ := hW2
      clear h01 h21 hB1 hW2
      go_wp2_with (first
        | (refine wpList_store_row rfl 82 _ _ rfl w1.heap.size (I64 OL).toArray rfl rfl 82 (I64 Z16).toArray hz1 infoE rfl (by simp [OL, Value.oneCell']) ?_)
        | (refine wpList_load_row rfl 82 _ rfl w.heap.size rfl 82 (I64 F).toArray (0, 0) _ h02' Tryd.underlying82 rfl hiF ?_)
        | (refine wpList_load_row rfl 82 _ rfl w1.heap.size rfl 82 (I64 OL).toArray (0, 0) _ hp2' Tryd.underlying82 rfl infoE ?_))
      rw [← HW2.out]
      clear HW2 h02' hp2' hz1
      refine (specLess F OL _ hFl OL_len hFm OL_lm).mono ?_
      rintro e w3 ⟨rfl, hb3⟩
      have h03 := h02.kept hb3
      have h23 := h22.kept hb3
      have hp3 := hp2.kept hb3
      have hB3 := hB2.trans (hb3.mono hB2.size)
      rw [OL_val, HFV.out]
      clear h02 h22 hp2 hB2 hb3
      by_cases hlp : t < qO
      · have hd : decide (t < qO) = true := by simp [hlp]
        rw [hd]
        have hFR := HY.out hlp
        have h23' := h23.row (I64 F)
        have hb' := setRow_below hB3 (w.heap.size + 1) (I64 F).toArray (by omega)
        clear hd hlp
        go_wp2_with (first
          | (refine wpList_load_row rfl 82 _ rfl w.heap.size rfl 82 (I64 F).toArray (0, 0) _ h03 Tryd.underlying82 rfl hiF ?_)
          | (refine wpList_store_row rfl 82 _ _ rfl (w.heap.size + 1) (I64 F).toArray rfl rfl 82 _ h23 hiF (by simp [hFl]) (by simp [Value.oneCell']) ?_))
        exact bodyPost_ret (results_cell_row rfl _ _ (w.heap.size + 1) 82 (I64 F).toArray (0, 0) _ rfl h23' Tryd.underlying82 rfl hiF) rfl ⟨by rw [← hFR], hb'⟩
      · have hd : decide (t < qO) = false := by simp [hlp]
        rw [hd]
        have hGR := HN.out (by omega)
        clear hd hlp
        go_wp2_with (first
          | (refine wpList_load_row rfl 82 _ rfl w.heap.size rfl 82 (I64 F).toArray (0, 0) _ h03 Tryd.underlying82 rfl hiF ?_)
          | (refine wpList_load_row rfl 82 _ rfl w1.heap.size rfl 82 (I64 OL).toArray (0, 0) _ hp3 Tryd.underlying82 rfl infoE ?_))
        refine (specTake F OL _ hFl OL_len hFm OL_lm).mono ?_
        rintro e w4 ⟨rfl, hb4⟩
        have h04 := h03.kept hb4
        have h24 := h23.kept hb4
        have hB4 := hB3.trans (hb4.mono hB3.size)
        have hGl : (tk16 F OL).length = 16 := by rw [tk16_lim hFl OL_len, lim_len]
        obtain ⟨G, hG⟩ : ∃ G, G = tk16 F OL := ⟨_, rfl⟩
        rw [← hG] at hGl hGR ⊢
        have hiG : (Tryd.prog.info? 82).map (·.size) = some (I64 G).toArray.size := by simpa [hGl] using infoE
        have HGR : Hid _ := hGR
        clear hGR h03 h23 hp3 hB3 hb4 hG
        have h05 := h04.row (I64 G)
        have h25 := h24.rowOther w.heap.size (I64 G).toArray (by omega)
        have hB5 := setRow_below hB4 w.heap.size (I64 G).toArray (Nat.le_refl _)
        have h26 := h25.row (I64 G)
        have hb' := setRow_below hB5 (w.heap.size + 1) (I64 G).toArray (by omega)
        go_wp2_with (first
          | (refine wpList_store_row rfl 82 _ _ rfl w.heap.size (I64 G).toArray rfl rfl 82 _ h04 hiG (by simp [hGl, hFl]) (by simp [Value.oneCell']) ?_)
          | (refine wpList_load_row rfl 82 _ rfl w.heap.size rfl 82 (I64 G).toArray (0, 0) _ h05 Tryd.underlying82 rfl hiG ?_)
          | (refine wpList_store_row rfl 82 _ _ rfl (w.heap.size + 1) (I64 G).toArray rfl rfl 82 _ h25 hiG (by simp [hGl]) (by simp [Value.oneCell']) ?_))
        exact bodyPost_ret (results_cell_row rfl _ _ (w.heap.size + 1) 82 (I64 G).toArray (0, 0) _ rfl h26 Tryd.underlying82 rfl hiG) rfl ⟨by rw [← HGR.out], hb'⟩
end Go.Proofs.YtoblilngppjmhaaDoor
namespace Go.Proofs.YtoblilngppjmhaaDoor
open Go.RowKit
set_option maxRecDepth 100000

theorem i64_bit1 {x : Int} (h0 : 0 ≤ x) (h1 : x < 9223372036854775808) : bits .and .i64 x 1 = x % 2 :=
  bits_mask .i64 63 (by decide) (fun n a b => by rw [IntKind.wrap_i64]; omega) 1 (by decide) x h0 h1
/-- The cells of l5mod: the result's, and the number so far; the slice is older. -/
structure MP (w W : World) (r : List Int) : Prop where
  fr : Below w.heap.size w W
  pz : Arr W w.heap.size 82 (I64 Z16)
  pr : Arr W (w.heap.size + 1) 82 (I64 r)
theorem MP.go {w A B : World} {r : List Int} (h : MP w A r) (hb : Below A.heap.size A B) : MP w B r := ⟨h.fr.trans (hb.mono h.fr.size), h.pz.kept hb, h.pr.kept hb⟩
theorem MP.put {w W : World} {r : List Int} (h : MP w W r) (s : List Int) (hl : (I64 r).length = (I64 s).length) : MP w (W.setCells (w.heap.size + 1) 0 (I64 s)) s :=
  ⟨setCells_below (by omega) _ _ h.fr, Arr.setCellsO (by omega) _ _ h.pz, Arr.setCells0 h.pr hl⟩
theorem one_e (l : List Int) : ∀ v ∈ I64 l, v.oneCell' = true := by
  intro v hv
  obtain ⟨x, _, rfl⟩ := List.mem_map.1 hv
  rfl

set_option maxHeartbeats 4000000 in
theorem specMod (a : Option Addr) (n c : Nat) (xs : List Int) (w : World) (hx : Is w a n c xs) (hm : Lm xs) (hn : n ≤ 33) :
    Calls Tryd.prog 141 #[.slice a n c] w fun e w' => e = .returned (.agg (I64 (redO (val xs))).toArray) ∧ Below w.heap.size w w' := by
  have hl := hx.2.1
  have hbit := fun j hj => bitO hl hm j hj
  have h0 := val_nonneg (fun x hx => (hm x hx).1)
  obtain ⟨N, hN⟩ := Int.eq_ofNat_of_zero_le h0
  have hNb : N < 2 ^ (16 * n) := by
    have h1 := val_lt hm
    rw [hl, hN] at h1
    have e : (2 : Nat) ^ (16 * n) = 65536 ^ n := by rw [Nat.pow_mul]
    rw [e]
    have e2 : ((65536 : Int)) ^ n = ((65536 ^ n : Nat) : Int) := by rw [Int.natCast_pow]; rfl
    rw [e2] at h1
    exact Int.ofNat_lt.1 h1
  rw [hN, Int.toNat_natCast] at hbit
  obtain ⟨F, hF⟩ : ∃ F : Nat → List Int, ∀ m, F m = redO ((N / 2 ^ m : Nat) : Int) := ⟨fun m => redO ((N / 2 ^ m : Nat) : Int), fun _ => rfl⟩
  have HL : Hid (∀ m, (F m).length = 16 ∧ Lm (F m) ∧ val (F m) < qO) := by unfold Hid; intro m; rw [hF]; exact (scOk_iff _).1 (redO_ok _)
  have HE : Hid (Z16 = F (16 * n)) := by unfold Hid; rw [hF, Nat.div_eq_of_lt hNb]; decide
  have HS : Hid (∀ j, j < 16 * n → redO (2 * val (F (j + 1)) + xs.getD (j / 16) 0 / 2 ^ (j % 16) % 2) = F j) := by
    unfold Hid; intro j hj; rw [hbit j hj, hF, hF]; exact redO_twice N j
  have hres : redO (val xs) = F 0 := by rw [hN, hF, Nat.pow_zero, Nat.div_one]
  rw [hres]
  have HX := fun k (hk : k < n) => gD_lm hm k
  clear hres hF hbit hN hNb h0
  obtain ⟨W, hW⟩ : ∃ W, W = (w.alloc (.cells #[.int .i64 0, .int .i64 0, .int .i64 0, .int .i64 0, .int .i64 0, .int .i64 0, .int .i64 0, .int .i64 0, .int .i64 0, .int .i64 0, .int .i64 0, .int .i64 0, .int .i64 0, .int .i64 0, .int .i64 0, .int .i64 0] 82)).alloc (.cells #[.int .i64 0, .int .i64 0, .int .i64 0, .int .i64 0, .int .i64 0, .int .i64 0, .int .i64 0, .int .i64 0, .int .i64 0, .int .i64 0, .int .i64 0, .int .i64 0, .int .i64 0, .int .i64 0, .int .i64 0, .int .i64 0] 82) := ⟨_, rfl⟩
  have EE : MP w W Z16 := by
    rw [hW]
    refine ⟨((Below.refl _ _).alloc (Nat.le_refl _) _).alloc (by simp) _, (Arr.new w (I64 Z16) _).alloc _, ?_⟩
    have := Arr.new (w.alloc (.cells (I64 Z16).toArray 82)) (I64 Z16) 82
    rw [World.size_alloc] at this
    exact this
  rw [HE.out] at EE
  have s1 : IntKind.i64.wrap (16 * (n : Int)) = 16 * (n : Int) := by rw [IntKind.wrap_i64]; omega
  have s2 : IntKind.i64.wrap (16 * (n : Int) - 1) = 16 * (n : Int) - 1 := by rw [IntKind.wrap_i64]; omega
  have hu : Tryd.prog.underlying 82 = some (.array 16 3) := Tryd.underlying82
  clear HE
  go_enter Tryd.func141, Tryd.ntmps141
  go_wp2
  rw [← hW]
  clear hW
  go_loopw [4] (fun i wr => ∃ (m : Nat) (z : Int), m ≤ 16 * n ∧ z = (m : Int) - 1 ∧ i = .int .i64 z ∧ MP w wr (F m)) (fun i _ => (intOf i + 1).toNat)
  case atStart => exact ⟨16 * n, 16 * (n : Int) - 1, by omega, by omega, rfl, EE⟩
  case round =>
    clear EE s1 s2
    obtain ⟨m, z, hmn, hz, rfl, EE⟩ := hrel
    obtain ⟨R, hR⟩ : ∃ R, R = F m := ⟨_, rfl⟩
    rw [← hR] at EE
    have hRl : R.length = 16 := by rw [hR]; exact (HL.out m).1
    have hRm : Lm R := by rw [hR]; exact (HL.out m).2.1
    have hRv : val R < qO := by rw [hR]; exact (HL.out m).2.2
    have hir : (Tryd.prog.info? 82).map (·.size) = some (I64 R).toArray.size := by simpa [hRl] using infoE
    have hirl : (Tryd.prog.info? 82).map (·.size) = some (I64 R).length := by simpa [hRl] using infoE
    have HR : Hid _ := hR
    clear hR
    by_cases hm0 : m = 0
    · have hz0 : z < 0 := by omega
      have hz1 : ¬ (0 ≤ z) := by omega
      have HRR : Hid (R = F 0) := by unfold Hid; rw [HR.out, hm0]
      have hpr := EE.pr
      have hpz := EE.pz
      have hp2 := hpz.row (I64 R)
      have hb2 := setRow_below EE.fr w.heap.size (I64 R).toArray (Nat.le_refl _)
      clear HR hz hm0 EE
      go_wp2_with (first
        | (refine wpList_load_row rfl 82 _ rfl (w.heap.size + 1) rfl 82 (I64 R).toArray (0, 0) _ hpr Tryd.underlying82 rfl hir ?_)
        | (refine wpList_store_row rfl 82 _ _ rfl w.heap.size (I64 R).toArray rfl rfl 82 _ hpz hir (by simp [hRl]) (by simp [Value.oneCell']) ?_))
      exact bodyPost_ret (results_cell_row rfl _ _ w.heap.size 82 (I64 R).toArray (0, 0) _ rfl hp2 Tryd.underlying82 rfl hir) rfl ⟨by rw [HRR.out], hb2⟩
    · obtain ⟨j, rfl⟩ : ∃ j, m = j + 1 := ⟨m - 1, by omega⟩
      obtain rfl : z = (j : Int) := by omega
      clear hz hm0
      obtain ⟨x, hxx⟩ : ∃ x, x = xs.getD (j / 16) 0 := ⟨_, rfl⟩
      have hxb := HX (j / 16) (by omega)
      rw [← hxx] at hxb
      have hj0 : (0 : Int) ≤ (j : Int) := by omega
      obtain ⟨q, hq⟩ : ∃ q, q = j / 16 := ⟨_, rfl⟩
      have hq1 : (j : Int) / 16 = (q : Int) := by omega
      have hq2 : (q : Int) < (n : Int) := by omega
      have hq3 : (0 : Int) ≤ (q : Int) := by omega
      have hy0 : 0 ≤ x / 2 ^ (j % 16) := Int.ediv_nonneg hxb.1 (Int.le_of_lt (Int.pow_pos (by omega)))
      have hy1 : x / 2 ^ (j % 16) ≤ x := Int.ediv_le_self _ hxb.1
      obtain ⟨b, hb⟩ : ∃ b, b = x / 2 ^ (j % 16) % 2 := ⟨_, rfl⟩
      have hand : bits .and .i64 (x / 2 ^ (j % 16)) 1 = b := by rw [hb]; exact i64_bit1 hy0 (by omega)
      have hbb : 0 ≤ b ∧ b ≤ 1 := by rw [hb]; omega
      have hT := HS.out j (by omega)
      rw [← HR.out, ← hxx, ← hb] at hT
      obtain ⟨T, hTT⟩ : ∃ T, T = F j := ⟨_, rfl⟩
      rw [← hTT] at hT
      have hTl : T.length = 16 := by rw [hTT]; exact (HL.out j).1
      have hit : (Tryd.prog.info? 82).map (·.size) = some (I64 T).toArray.size := by simpa [hTl] using infoE
      have HTW : Hid (∀ Z, Calls Tryd.prog 148 #[.agg (I64 R).toArray, .int .i64 b] Z fun e w' => e = .returned (.agg (I64 T).toArray) ∧ Below Z.heap.size Z w') := by
        unfold Hid; intro Z
        have := specTwice R b Z hRl hRm hRv hbb.1 hbb.2
        rw [hT] at this
        exact this
      have HTT : Hid _ := hTT
      obtain ⟨_, _, hcn, _, hcc⟩ := hx
      rcases hcc with hcc | ⟨B, o, rfl, hBs, hcell⟩
      · omega
      have HCE : Hid (∀ V, Below w.heap.size w V → V.cell? ⟨B, o + q, none⟩ = some (.int .i64 x)) := by
        unfold Hid; intro V hV; rw [hxx, hq]; exact (hV.cell (p := ⟨B, o + j / 16, none⟩) hBs).trans (hcell (j / 16) (by omega))
      have hone := one_e T
      obtain ⟨y, hy⟩ : ∃ y, y = x / 2 ^ (j % 16) := ⟨_, rfl⟩
      have hwq : IntKind.i64.wrap (q : Int) = (q : Int) := by rw [IntKind.wrap_i64]; omega
      have hrem : (j : Int).tmod 16 = (j : Int) % 16 := Int.tmod_eq_emod_of_nonneg hj0
      have hsh : ((j : Int) % 16).toNat = j % 16 := by omega
      clear hT hTT hb hxx hcell hq
      go_wp2
      replace EE : MP w wr.drew R := EE.go (Below.refl _ _).drew
      have hc0 := HCE.out _ EE.fr
      refine wp_region_held_drew (S := fun W => W.cell? ⟨B, o + q, none⟩ = some (.int .i64 x)) (by kernel_rfl) hc0 (fun hHeld => ?_)
      obtain ⟨wD, hD⟩ : ∃ V, V = wr.drew := ⟨_, rfl⟩
      rw [← hD] at hHeld EE hc0 ⊢
      clear hD
      refine wpAnyH_take (i := 1) (oi := { dst := some 14, op := Op.move (Operand.tmp 0), type := 23, pos := "l05_scalar.go:61", after := #[], guard := none }) (v := .slice (some ⟨B, o, none⟩) n c) rfl (by kernel_rfl) (by kernel_rfl) (by kernel_rfl) (fun _ _ _ h => h) (.inl ⟨by rfl, fun _ _ => by rfl⟩) (by assumption) ?_
      simp only [Act.put, List.setIfInBounds_toArray, List.set_cons_zero, List.set_cons_succ]
      refine wpAnyH_take (i := 2) (oi := { dst := some 15, op := Op.move (Operand.tmp 4), type := 3, pos := "l05_scalar.go:61", after := #[], guard := none }) (v := .int .i64 (j : Int)) rfl (by kernel_rfl) (by kernel_rfl) (by kernel_rfl) (fun _ _ _ h => h) (.inl ⟨by rfl, fun _ _ => by rfl⟩) (by assumption) ?_
      simp only [Act.put, List.setIfInBounds_toArray, List.set_cons_zero, List.set_cons_succ]
      refine wpAnyH_take (i := 3) (oi := { dst := some 16, op := Op.binOp BinOp.quo 3 (Operand.tmp 15) (Operand.const (Value.int IntKind.i64 16)) 3, type := 3, pos := "l05_scalar.go:61", after := #[{ on := 2, ground := Ground.data }], guard := none }) (v := .int .i64 (q : Int)) rfl (by kernel_rfl) (by kernel_rfl) (by kernel_rfl) (fun _ _ _ h => h) (.inl ⟨by rfl, fun W hW => by simp [go_sem, *]⟩) (by assumption) ?_
      simp only [Act.put, List.setIfInBounds_toArray, List.set_cons_zero, List.set_cons_succ]
      refine wpAnyH_take (i := 4) (oi := { dst := some 17, op := Op.indexAddr 23 (Operand.tmp 14) (Operand.tmp 16), type := 0, pos := "l05_scalar.go:61", after := #[{ on := 1, ground := Ground.data }, { on := 3, ground := Ground.data }], guard := none }) (v := .pointer (some ⟨B, o + q, none⟩)) rfl (by kernel_rfl) (by kernel_rfl) (by kernel_rfl) (fun _ _ _ h => h) (.inl ⟨by rfl, fun W hW => by simp [go_sem, *]⟩) (by assumption) ?_
      simp only [Act.put, List.setIfInBounds_toArray, List.set_cons_zero, List.set_cons_succ]
      refine wpAnyH_take (i := 5) (oi := { dst := some 18, op := Op.load 3 (Operand.tmp 17), type := 3, pos := "l05_scalar.go:61", after := #[{ on := 4, ground := Ground.data }], guard := none }) (v := .int .i64 x) rfl (by kernel_rfl) (by kernel_rfl) (by kernel_rfl) (fun _ _ _ h => h) (.inl ⟨by rfl, fun W hW => by simp [go_sem, *]⟩) (by assumption) ?_
      simp only [Act.put, List.setIfInBounds_toArray, List.set_cons_zero, List.set_cons_succ]
      refine wpAnyH_take (i := 6) (oi := { dst := some 19, op := Op.move (Operand.tmp 4), type := 3, pos := "l05_scalar.go:61", after := #[], guard := none }) (v := .int .i64 (j : Int)) rfl (by kernel_rfl) (by kernel_rfl) (by kernel_rfl) (fun _ _ _ h => h) (.inl ⟨by rfl, fun _ _ => by rfl⟩) (by assumption) ?_
      simp only [Act.put, List.setIfInBounds_toArray, List.set_cons_zero, List.set_cons_succ]
      refine wpAnyH_take (i := 7) (oi := { dst := some 20, op := Op.binOp BinOp.rem 3 (Operand.tmp 19) (Operand.const (Value.int IntKind.i64 16)) 3, type := 3, pos := "l05_scalar.go:61", after := #[{ on := 6, ground := Ground.data }], guard := none }) (v := .int .i64 ((j : Int) % 16)) rfl (by kernel_rfl) (by kernel_rfl) (by kernel_rfl) (fun _ _ _ h => h) (.inl ⟨by rfl, fun W hW => by simp [go_sem, *]⟩) (by assumption) ?_
      simp only [Act.put, List.setIfInBounds_toArray, List.set_cons_zero, List.set_cons_succ]
      refine wpAnyH_take (i := 8) (oi := { dst := some 21, op := Op.binOp BinOp.shr 3 (Operand.tmp 18) (Operand.tmp 20) 3, type := 3, pos := "l05_scalar.go:61", after := #[{ on := 5, ground := Ground.data }, { on := 7, ground := Ground.data }], guard := none }) (v := .int .i64 y) rfl (by kernel_rfl) (by kernel_rfl) (by kernel_rfl) (fun _ _ _ h => h) (.inl ⟨by rfl, fun W hW => by simp [go_sem, *]⟩) (by assumption) ?_
      simp only [Act.put, List.setIfInBounds_toArray, List.set_cons_zero, List.set_cons_succ]
      refine wpAnyH_take (i := 9) (oi := { dst := some 22, op := Op.binOp BinOp.and 3 (Operand.tmp 21) (Operand.const (Value.int IntKind.i64 1)) 3, type := 3, pos := "l05_scalar.go:61", after := #[{ on := 8, ground := Ground.data }], guard := none }) (v := .int .i64 b) rfl (by kernel_rfl) (by kernel_rfl) (by kernel_rfl) (fun _ _ _ h => h) (.inl ⟨by rfl, fun W hW => by simp [go_sem, *]⟩) (by assumption) ?_
      simp only [Act.put, List.setIfInBounds_toArray, List.set_cons_zero, List.set_cons_succ]
      refine wpAnyH_ready (rs := [0]) (by kernel_rfl) (by simp) (AllReadyH.cons (o := { dst := some 13, op := Op.load 82 (Operand.tmp 3), type := 82, pos := "l05_scalar.go:61", after := #[], guard := none }) rfl (fun K hK => ?_) AllReadyH.nil)
      rw [if_pos (by rfl)]
      refine wp_load_mid _ _ rfl _ _ rfl (I64 R) _ (arr_range EE.pr) hu rfl hirl ?_
      simp only [Act.put, List.setIfInBounds_toArray, List.set_cons_zero, List.set_cons_succ]
      refine hK.out _ _ hc0 (fun hHeld => ?_)
      clear hK K
      refine wpAnyH_ready (rs := [10]) (by kernel_rfl) (by simp) (AllReadyH.cons (o := { dst := some 23, op := Op.call { callee := Callee.value (Operand.func 148), args := #[Operand.tmp 13, Operand.tmp 22], argTypes := #[82, 3] }, type := 82, pos := "l05_scalar.go:61", after := #[{ on := 0, ground := Ground.data }, { on := 9, ground := Ground.data }], guard := none }) rfl (fun K hK => ?_) AllReadyH.nil)
      go_simp
      refine (HTW.out _).mono ?_
      rintro e w4 ⟨rfl, hb4⟩
      replace EE := EE.go hb4
      clear hb4 hc0
      have hc0 := HCE.out _ EE.fr
      go_wp2_with fail
      refine hK.out _ _ hc0 (fun hHeld => ?_)
      clear hK K
      have hth : w4.there (w.heap.size + 1) 0 (I64 T).toArray.size := by simpa [hRl, hTl] using arr_there EE.pr
      have E5 := EE.put T (by simp [hRl, hTl])
      have hc5 := HCE.out _ E5.fr
      rw [HTT.out] at E5
      have HE5 : Hid _ := E5
      rw [← HTT.out] at HE5
      refine wpAnyH_ready (rs := [11]) (by kernel_rfl) (by simp) (AllReadyH.cons (o := { dst := none, op := Op.store 82 (Operand.tmp 3) (Operand.tmp 23), type := 0, pos := "l05_scalar.go:61", after := #[{ on := 10, ground := Ground.data }, { on := 10, ground := Ground.chain }, { on := 0, ground := Ground.phase }, { on := 1, ground := Ground.phase }, { on := 2, ground := Ground.phase }, { on := 3, ground := Ground.phase }, { on := 4, ground := Ground.phase }, { on := 5, ground := Ground.phase }, { on := 6, ground := Ground.phase }, { on := 7, ground := Ground.phase }, { on := 8, ground := Ground.phase }, { on := 9, ground := Ground.phase }, { on := 10, ground := Ground.phase }], guard := none }) rfl (fun K hK => ?_) AllReadyH.nil)
      rw [if_pos (by rfl)]
      refine wp_store_mid _ _ _ rfl _ _ (I64 T).toArray rfl rfl hth hit (all_oneCell_toArray hone) ?_
      simp only [Act.put]
      refine hK.out _ _ hc5 (fun hHeld => ?_)
      clear hK K
      refine wpAnyH_done (by kernel_rfl) ?_ _
      clear hHeld hc0 hc5 E5
      go_wp2
      go_roundw
      case rel => exact ⟨j, (j : Int) - 1, by omega, rfl, by go_num, HTT.out ▸ HE5.out⟩
      case measure => simp [intOf]
end Go.Proofs.YtoblilngppjmhaaDoor
namespace Go.Proofs.YtoblilngppjmhaaDoor
open Go.RowKit
set_option maxRecDepth 100000

theorem lim_okO {x : Int} (h0 : 0 ≤ x) (h1 : x < qO) : scOk (lim 16 x) = true :=
  (scOk_iff _).2 ⟨lim_len _ _, lim_lm _ _, by rw [val_lim, p256]; unfold qO at *; omega⟩
theorem tk_okO {x : Int} (h0 : 0 < x) (h1 : x < qO) : scOk (tk16 OL (lim 16 x)) = true := by
  rw [tk16_lim OL_len (lim_len _ _), OL_val, val_lim, p256]
  refine lim_okO ?_ ?_ <;> (unfold qO at *; omega)
set_option maxHeartbeats 2000000 in
theorem curDraw5 (p : Nat) (a : Option Addr) (n c : Nat) (xs : List Int) (w : World) (hcur : Cur w p a n c) (hcode : Coded w p a n c xs) :
    Calls Tryd.prog 115 #[.pointer (some ⟨p, 0, none⟩)] w fun e w' => ∃ l, e = .returned (.agg (I64 l).toArray) ∧ scOk l = true ∧ Cur w' p a n c ∧ w.grownBy w' (some p) := by
  have hp0 := cur_lt hcur
  obtain ⟨W, hW⟩ : ∃ W, W = w.alloc (.cells #[.int .i64 0, .int .i64 0, .int .i64 0, .int .i64 0, .int .i64 0, .int .i64 0, .int .i64 0, .int .i64 0, .int .i64 0, .int .i64 0, .int .i64 0, .int .i64 0, .int .i64 0, .int .i64 0, .int .i64 0, .int .i64 0] 82) := ⟨_, rfl⟩
  have DD : Dq w W p a n c xs := by
    rw [hW]
    exact ⟨grown_alloc _ _ _, cur_keep hcur (grown_alloc _ _ none) (by simp), hcode, Arr.new w (I64 Z16) _, hp0⟩
  have FIN : Hid (∀ (V : World) (l : List Int), Dq w V p a n c xs → l.length = 16 → Cur (V.setRow w.heap.size (I64 l).toArray) p a n c ∧ w.grownBy (V.setRow w.heap.size (I64 l).toArray) (some p)) := by
    unfold Hid
    intro V l D _
    have hb := setRow_below (B := w.heap.size) (w := V) (w' := V) (Below.refl _ _) w.heap.size (I64 l).toArray (Nat.le_refl _)
    have hg : V.grownBy (V.setRow w.heap.size (I64 l).toArray) (some w.heap.size) := ⟨hb.os, hb.tape, hb.output, hb.size, fun k hk hne => setRow_other V w.heap.size k _ (fun e => hne (by rw [e]))⟩
    refine ⟨cur_keep D.cur hg (by intro e; have := Option.some.inj e; omega), ?_⟩
    exact grown_into D.gr hg (by intro k hk; cases hk; exact .inl (Nat.le_refl _))
  go_enter Tryd.func115, Tryd.ntmps115
  go_wp2_with fail
  rw [← hW]
  clear hW hcur hcode
  refine (curOnce p a n c xs 3 _ DD.cur DD.cod (by omega)).mono ?_
  rintro e w1 ⟨x1, rfl, hc1, hg1⟩
  replace DD := DD.draw hc1 hg1
  clear hc1 hg1
  cases x1 with
  | true =>
    have hcl := cells_arr w1 [0, 1, 2, 8, 65535] 3
    have hpw := cur_lt DD.cur
    replace DD := DD.alloc (.cells ([0, 1, 2, 8, 65535].map (Value.int .i64)).toArray 3)
    go_wp2_with fail
    refine (curPick p a n c xs w1.heap.size 5 [0, 1, 2, 8, 65535] _ DD.cur DD.cod rfl (by omega) (by omega) (by omega) hcl).mono ?_
    rintro e w2 ⟨x, rfl, hx, hc2, hg2⟩
    replace DD := DD.draw hc2 hg2
    have hxb : 0 ≤ x ∧ x < 9223372036854775808 := by simp at hx; omega
    clear hc2 hg2 hcl hpw hx
    go_wp2_with fail
    refine (specSmall x _ hxb.1 hxb.2).mono ?_
    rintro e w3 ⟨rfl, hb3⟩
    replace DD := DD.calm hb3
    clear hb3
    have hok := lim_okO (x := x) hxb.1 (by unfold qO; omega)
    obtain ⟨R, hR⟩ : ∃ R, R = lim 16 x := ⟨_, rfl⟩
    rw [← hR] at hok ⊢
    clear hR
    have hRl := ((scOk_iff R).1 hok).1
    have hpz := DD.pz
    have hp2 := hpz.row (I64 R)
    have HF : Hid _ := FIN.out _ R DD hRl
    clear DD FIN
    go_wp2_with (refine wpList_store_row rfl 82 _ _ rfl w.heap.size (I64 R).toArray rfl rfl 82 _ hpz (by simpa [hRl] using infoE) (by simp [hRl]) (by simp [Value.oneCell']) ?_)
    exact bodyPost_ret (results_cell_row rfl _ _ w.heap.size 82 (I64 R).toArray (0, 0) _ rfl hp2 Tryd.underlying82 rfl (by simpa [hRl] using infoE)) rfl ⟨R, rfl, hok, HF.out.1, HF.out.2⟩
  | false =>
    go_wp2_with fail
    refine (curOnce p a n c xs 3 _ DD.cur DD.cod (by omega)).mono ?_
    rintro e w2 ⟨x2, rfl, hc2, hg2⟩
    replace DD := DD.draw hc2 hg2
    clear hc2 hg2
    cases x2 with
    | true =>
      go_wp2_with fail
      refine (specOrder _).mono ?_
      rintro e w3 ⟨rfl, hb3⟩
      replace DD := DD.calm hb3
      clear hb3
      go_wp2_with fail
      refine (curBelow p a n c xs 9 _ DD.cur DD.cod (by omega)).mono ?_
      rintro e w4 ⟨j, rfl, hj0, hj1, _, hc4, hg4⟩
      replace hj1 := hj1 (by omega)
      replace DD := DD.draw hc4 hg4
      clear hc4 hg4
      have hw : IntKind.i64.wrap (1 + j) = 1 + j := by rw [IntKind.wrap_i64]; omega
      go_wp2_with fail
      refine (specSmall (1 + j) _ (by omega) (by omega)).mono ?_
      rintro e w5 ⟨rfl, hb5⟩
      replace DD := DD.calm hb5
      clear hb5
      go_wp2_with fail
      refine (specTake OL (lim 16 (1 + j)) _ OL_len (lim_len _ _) OL_lm (lim_lm _ _)).mono ?_
      rintro e w6 ⟨rfl, hb6⟩
      replace DD := DD.calm hb6
      clear hb6
      have hok := tk_okO (x := 1 + j) (by omega) (by unfold qO; omega)
      obtain ⟨R, hR⟩ : ∃ R, R = tk16 OL (lim 16 (1 + j)) := ⟨_, rfl⟩
      rw [← hR] at hok ⊢
      clear hR
      have hRl := ((scOk_iff R).1 hok).1
      have hpz := DD.pz
      have hp2 := hpz.row (I64 R)
      have HF : Hid _ := FIN.out _ R DD hRl
      clear DD FIN
      go_wp2_with (refine wpList_store_row rfl 82 _ _ rfl w.heap.size (I64 R).toArray rfl rfl 82 _ hpz (by simpa [hRl] using infoE) (by simp [hRl]) (by simp [Value.oneCell']) ?_)
      exact bodyPost_ret (results_cell_row rfl _ _ w.heap.size 82 (I64 R).toArray (0, 0) _ rfl hp2 Tryd.underlying82 rfl (by simpa [hRl] using infoE)) rfl ⟨R, rfl, hok, HF.out.1, HF.out.2⟩
    | false =>
      have hs0 := DD.pz.lt
      obtain ⟨B, hB⟩ : ∃ B, B = w2.heap.size := ⟨_, rfl⟩
      go_wp2
      rw [← hB] at hs0
      go_loopw [3, 4] (fun v i wr => ∃ (k : Nat) (l : List Int), k ≤ 16 ∧ i = .int .i64 k ∧ l.length = k ∧ Lm l ∧ wr.ownsRow B 3 1 v k (I64 l) ∧ Dq w wr p a n c xs ∧ B ≤ wr.heap.size) (fun _ i _ => 16 - (intOf i).toNat)
      case atStart => exact ⟨0, [], by omega, rfl, rfl, by intro x hx; simp at hx, by simpa using World.ownsRow_nil _ _ _ _, DD, by omega⟩
      case round =>
        clear DD hB
        obtain ⟨k, l, hk, rfl, hl, hm, ho, DD, hs⟩ := hrel
        have hp := DD.hp
        by_cases hlt : k < 16
        · have hk16 : (k : Int) < 16 := by omega
          have hk0 : (0 : Int) ≤ (k : Int) := by omega
          go_wp2_with fail
          refine (curBelow p a n c xs 65536 _ DD.cur DD.cod (by omega)).mono ?_
          rintro e w3 ⟨x, rfl, hx0, hx1, _, hc3, hg3⟩
          replace hx1 := hx1 (by omega)
          replace DD := DD.draw hc3 hg3
          have ho3 := ho.kept hg3 (.inr (fun e => by have h1 := (ho.lt p e).1; omega))
          have hs3 := Nat.le_trans hs hg3.size
          clear hc3 hg3 ho
          go_wp2_with (at_builtin; refine wpl_append_is rfl _ _ rfl B _ k l rfl (some ⟨w3.heap.size, 0, none⟩) 1 1 [x] rfl (ho3.alloc _) ?_ ?_ ?_ ?_)
          · exact Is.one _ _ (by omega) (by omega)
          · omega
          · first | omega | (simp; omega)
          intro v' w' h1 h2 _
          have hbA : Below B w3 w' := ((Below.refl _ _).alloc (by omega) _).grown h2 (by simp; omega) (fun j hj => (ho3.lt j hj).1)
          have DA := DD.alloc (.cells #[.int .i64 x] 3)
          have D1 : Dq w w' p a n c xs := ⟨grown_into DA.gr h2 (fun j hj => .inl (by have h3 := (ho3.lt j hj).1; omega)), cur_keep DA.cur h2 (fun e => by have h3 := (ho3.lt p e).1; omega), DD.cod0, DD.pz.below hbA hs0, DD.hp⟩
          have hs' := Nat.le_trans hs3 hbA.size
          have HR : Hid (w'.ownsRow B 3 1 v' (k + 1) (I64 (l ++ [x]))) := by unfold Hid; simpa using h1
          clear h1 h2 ho3 DD DA hbA
          go_wp2
          go_roundw
          case rel => exact ⟨k + 1, l ++ [x], by omega, by go_num, by simp [hl], by intro y hy; rcases List.mem_append.1 hy with h | h; exact hm y h; simp at h; omega, HR.out, D1, hs'⟩
          case measure => simp [intOf]; omega
        · obtain rfl : k = 16 := by omega
          obtain ⟨aL, cL, rfl, _, hIs⟩ := Is.own ho (fun x hx => by have := hm x hx; omega)
          have HM : Hid (Calls Tryd.prog 141 #[.slice aL 16 cL] wr fun e w' => e = .returned (.agg (I64 (redO (val l))).toArray) ∧ Below wr.heap.size wr w') := specMod aL 16 cL l wr hIs hm (by omega)
          clear ho hIs
          go_wp2_with fail
          refine HM.out.mono ?_
          rintro e w4 ⟨rfl, hb4⟩
          replace DD := DD.calm hb4
          clear hb4 HM
          have hok := redO_ok (val l)
          obtain ⟨R, hR⟩ : ∃ R, R = redO (val l) := ⟨_, rfl⟩
          rw [← hR] at hok ⊢
          clear hR
          have hRl := ((scOk_iff R).1 hok).1
          have hpz := DD.pz
          have hp2 := hpz.row (I64 R)
          have HF : Hid _ := FIN.out _ R DD hRl
          clear DD FIN
          go_wp2_with (refine wpList_store_row rfl 82 _ _ rfl w.heap.size (I64 R).toArray rfl rfl 82 _ hpz (by simpa [hRl] using infoE) (by simp [hRl]) (by simp [Value.oneCell']) ?_)
          exact bodyPost_ret (results_cell_row rfl _ _ w.heap.size 82 (I64 R).toArray (0, 0) _ rfl hp2 Tryd.underlying82 rfl (by simpa [hRl] using infoE)) rfl ⟨R, rfl, hok, HF.out.1, HF.out.2⟩
end Go.Proofs.YtoblilngppjmhaaDoor
namespace Go.Proofs.YtoblilngppjmhaaDoor
open Go.RowKit
set_option maxRecDepth 100000

/-- A row of bytes of its own, beside a cursor. -/
structure Bo (w X : World) (a : Option Addr) (n c g m C : Nat) (bs : List Int) : Prop where
  dw : Dw w X a n c
  own : X.ownsRow (w.heap.size + 1) 5 1 (.slice (some ⟨g, 0, none⟩) m C) m (U8 bs)
  byt : ∀ x ∈ bs, 0 ≤ x ∧ x < 256
section
variable {w X Y : World} {a : Option Addr} {n c g m C : Nat} {bs : List Int}
theorem Bo.draw (h : Bo w X a n c g m C bs) (hc : Cur Y w.heap.size a n c) (hg : X.grownBy Y (some w.heap.size)) : Bo w Y a n c g m C bs := ⟨h.dw.draw hc hg, own_draw h.own hg, h.byt⟩
theorem Bo.calm (h : Bo w X a n c g m C bs) (hb : Below X.heap.size X Y) : Bo w Y a n c g m C bs :=
  ⟨⟨h.dw.fr.trans (hb.mono h.dw.fr.size), cur_keep h.dw.cur (below_grown hb none) (by simp)⟩, h.own.kept (below_grown hb (some X.heap.size)) (.inr (fun e => by have := (h.own.lt _ e).2; omega)), h.byt⟩
theorem Bo.put (h : Bo w X a n c g m C bs) (j : Nat) (x : Int) (hx : 0 ≤ x ∧ x < 256) : Bo w (X.setCell ⟨g, j, none⟩ (.int .u8 x)) a n c g m C (bs.set j x) := by
  have hs := h.own.stored j (.int .u8 x)
  refine ⟨h.dw.app h.own hs.2, ?_, ?_⟩
  · rw [show U8 (bs.set j x) = (U8 bs).set j (.int .u8 x) from List.map_set]
    exact hs.1
  · intro y hy
    rcases List.mem_or_eq_of_mem_set hy with h1 | rfl
    · exact h.byt y h1
    · exact hx
theorem Bo.cell (h : Bo w X a n c g m C bs) (j : Nat) (hj : j < m) : X.cell? ⟨g, j, none⟩ = some (.int .u8 (bs.getD j 0)) := by
  rw [h.own.cellAt j (by omega)]
  have hl : bs.length = m := by have := h.own.1; simpa using this
  simp [show j < bs.length by omega]
theorem Bo.fin (h : Bo w X a n c g m C bs) : Bs X (some ⟨g, 0, none⟩) m C bs ∧ (∀ b o s, (some ⟨g, 0, none⟩ : Option Addr) = some ⟨b, o, s⟩ → w.heap.size ≤ b) ∧ Below w.heap.size w X :=
  ⟨bs_of_own h.own h.byt, fun b o s e => by cases e; have := (h.own.lt g rfl).1; omega, h.dw.fr⟩
theorem bo_new {v : Value} {B : Nat} (dw : Dw w X a n c) (ho : X.ownsRow B 5 1 v m (U8 bs)) (hB : w.heap.size + 1 ≤ B) (hm : 0 < m) (hb : ∀ x ∈ bs, 0 ≤ x ∧ x < 256) : ∃ g C, v = .slice (some ⟨g, 0, none⟩) m C ∧ m ≤ C ∧ Bo w X a n c g m C bs := by
  rcases (own_shape ho).2 with ⟨h1, h2⟩ | ⟨g, C, rfl, hg, hgs, hC, _⟩
  · omega
  · exact ⟨g, C, rfl, hC, dw, own_base ho hB, hb⟩
end
end Go.Proofs.YtoblilngppjmhaaDoor
namespace Go.Proofs.YtoblilngppjmhaaDoor
open Go.RowKit
set_option maxRecDepth 100000

theorem Bs.dropR {w : World} {b o : Nat} {n c m : Nat} {xs : List Int} (h : Bs w (some ⟨b, o, none⟩) n c xs) (hm : m ≤ n) : Bs w (some ⟨b, o + m, none⟩) (n - m) (c - m) (xs.drop m) := by
  obtain ⟨h0, h1, h2, h3, h4⟩ := h
  refine ⟨(fun h => by cases h), by simp; omega, by omega, fun x hx => h3 x (List.mem_of_mem_drop hx), ?_⟩
  by_cases hz : n - m = 0
  · exact .inl hz
  rcases h4 with h4 | ⟨b', o', ha, hlt, hc⟩
  · exact .inl (by omega)
  · cases ha
    refine .inr ⟨b, o + m, rfl, hlt, fun j hj => ?_⟩
    have := hc (m + j) (by omega)
    rw [show o + m + j = o + (m + j) by omega, this]
    simp [List.getD, List.getElem?_drop]

theorem xor_top : ∀ t : Fin 256, 0 ≤ bits .xor .u8 ((t.val : Nat) : Int) 128 ∧ bits .xor .u8 ((t.val : Nat) : Int) 128 < 256 := by decide
theorem xor_byte {t : Int} (h0 : 0 ≤ t) (h1 : t < 256) : 0 ≤ bits .xor .u8 t 128 ∧ bits .xor .u8 t 128 < 256 := by
  obtain ⟨n, rfl⟩ := Int.eq_ofNat_of_zero_le h0
  exact xor_top ⟨n, by omega⟩
theorem getD_byte {bs : List Int} (h : ∀ x ∈ bs, 0 ≤ x ∧ x < 256) (j : Nat) : 0 ≤ bs.getD j 0 ∧ bs.getD j 0 < 256 := by
  rw [List.getD_eq_getElem?_getD]
  rcases e : bs[j]? with _ | x
  · simp
  · exact h x (List.mem_of_getElem? e)

set_option maxHeartbeats 4000000 in
theorem drawPtRead (a : Option Addr) (n c : Nat) (xs : List Int) (w : World) (h : Bs w a n c xs) (hm : n ≤ 9223372036854775807) :
    Calls Tryd.prog 31 #[.slice a n c] w fun e w' => ∃ a' n' c' bs, e = .returned (.slice a' n' c') ∧ Bs w' a' n' c' bs ∧ n' ≤ 65 ∧ (∀ b o s, a' = some ⟨b, o, s⟩ → w.heap.size ≤ b) ∧ Below w.heap.size w w' := by
  have HCO : Hid (∀ W, Dw w W a n c → Coded W w.heap.size a n c xs) := by unfold Hid; intro W d; exact coded_of h hm d.fr
  go_enter Tryd.func31, Tryd.ntmps31
  go_wp2_with fail
  refine (curNew a n c xs _ h hm).mono ?_
  rintro e w1 ⟨rfl, c1, d1, hs1, fr1⟩
  have D1 : Dw w w1 a n c := ⟨fr1, c1⟩
  clear c1 d1 hs1 fr1
  go_wp2_with fail
  refine (curDraw6 w.heap.size a n c xs _ D1.cur (HCO.out _ D1)).mono ?_
  rintro e w2 ⟨R, rfl, hok, c2, g2⟩
  have D2 := D1.draw c2 g2
  clear c2 g2 D1
  go_wp2_with fail
  refine (spec6bytes R _ hok).mono ?_
  rintro e w3 ⟨v, rfl, ho, hb3⟩
  have D3 : Dw w w3 a n c := ⟨D2.fr.trans (hb3.mono D2.fr.size), cur_keep D2.cur (below_grown hb3 none) (by simp)⟩
  obtain ⟨g, C, rfl, hC, BB⟩ := bo_new D3 ho D2.lt (by omega) (ptBt_byte (ok_red _))
  obtain ⟨bs, hbs⟩ : ∃ bs, bs = ptBt (flx R) (fly R) := ⟨_, rfl⟩
  rw [← hbs] at BB
  clear D2 D3 ho hb3 hbs h hok
  go_wp2_with fail
  refine (curOnce w.heap.size a n c xs 3 _ BB.dw.cur (HCO.out _ BB.dw) (by omega)).mono ?_
  rintro e w4 ⟨x4, rfl, c4, g4⟩
  replace BB := BB.draw c4 g4
  clear c4 g4
  cases x4
  case' true =>
    go_wp2_with fail
    refine (curBelow w.heap.size a n c xs 32 _ BB.dw.cur (HCO.out _ BB.dw) (by omega)).mono ?_
    rintro e w5 ⟨k, rfl, k0, k1, _, c5, g5⟩
    replace BB := BB.draw c5 g5
    clear c5 g5
    obtain ⟨j, rfl⟩ : ∃ j : Nat, k = (j : Int) := ⟨k.toNat, by omega⟩
    have hj : j < 32 := by have := k1 (by omega); omega
    clear k0 k1
    go_wp2_with fail
    refine (curByte w.heap.size a n c xs _ BB.dw.cur (HCO.out _ BB.dw)).mono ?_
    rintro e w6 ⟨y, rfl, y0, y1, c6, g6⟩
    replace BB := BB.draw c6 g6
    clear c6 g6
    have hyw : IntKind.u8.wrap y = y := by rw [IntKind.wrap_u8]; omega
    have hcj := BB.cell j (by omega)
    have hfj := BB.own.frozenAt j
    replace BB := BB.put j y (by omega)
    obtain ⟨bs, hbs⟩ : ∃ cs, cs = bs.set j y := ⟨_, rfl⟩
    rw [← hbs] at BB
    clear hbs
  all_goals
    go_wp2_with fail
    refine (curOnce w.heap.size a n c xs 9 _ BB.dw.cur (HCO.out _ BB.dw) (by omega)).mono ?_
    rintro e w7 ⟨x7, rfl, c7, g7⟩
    replace BB := BB.draw c7 g7
    clear c7 g7
    have hcj := BB.cell 31 (by omega)
    have hfj := BB.own.frozenAt 31
    have hbt := getD_byte BB.byt 31
    obtain ⟨t, ht⟩ : ∃ t, t = bs.getD 31 0 := ⟨_, rfl⟩
    rw [← ht] at hcj hbt
    clear ht
    have hz := xor_byte hbt.1 hbt.2
    have B2 := BB.put 31 (bits .xor .u8 t 128) hz
    cases x7
    case' true => replace BB := B2
    case' true => obtain ⟨bs, hbs⟩ : ∃ cs, cs = bs.set 31 (bits .xor .u8 t 128) := ⟨_, rfl⟩
    case' true => rw [← hbs] at BB
    case' true => clear hbs
    all_goals
      clear B2
      go_wp2_with fail
      clear hcj hfj
      refine (curOnce w.heap.size a n c xs 15 _ BB.dw.cur (HCO.out _ BB.dw) (by omega)).mono ?_
      rintro e w9 ⟨x9, rfl, c9, g9⟩
      replace BB := BB.draw c9 g9
      clear c9 g9
      have HB : Hid _ := BB.fin
      have hC1 : ¬ (C = 1) := by omega
      clear BB
      cases x9
      case false =>
        go_wp2
        go_ret
        exact ⟨_, _, _, _, rfl, HB.out.1, by omega, HB.out.2.1, HB.out.2.2⟩
      case true =>
        have HD : Hid _ := HB.out.1.dropR (m := 1) (by omega)
        go_wp2
        go_ret
        exact ⟨_, _, _, _, rfl, HD.out, by omega, fun b o s e => by cases e; exact HB.out.2.1 _ _ _ rfl, HB.out.2.2⟩
end Go.Proofs.YtoblilngppjmhaaDoor
namespace Go.Proofs.YtoblilngppjmhaaDoor
set_option maxRecDepth 100000
open Go.RowKit

theorem conv_bs {w : World} {a : Option Addr} {n c : Nat} {xs : List Int} (h : Bs w a n c xs) : (convert 22 9 (.slice a n c)).run Tryd.prog w = .ok (.string (strOfNums xs)) w := by
  obtain ⟨_, hl, hc, _, h⟩ := h
  rcases h with h | ⟨b, o, rfl, _, hcell⟩
  · subst h
    have hx : xs = [] := List.eq_nil_of_length_eq_zero hl
    subst hx
    rw [run_convert_bytes_string w 22 9 5 _ 0 c Tryd.underlying22 Tryd.underlying5 Tryd.underlying9]
    cases a with
    | none => simp [Conv.bytesToString]; rfl
    | some ad => simp [Conv.bytesToString, loadCells]; rfl
  · exact run_convert_bytes_arg w 22 5 Tryd.underlying22 Tryd.underlying5 b o n c xs hl hcell 9 Tryd.underlying9

set_option maxHeartbeats 400000 in
theorem sameB (a a' : Option Addr) (n c n' c' : Nat) (xs ys : List Int) (w : World) (h : Bs w a n c xs) (h' : Bs w a' n' c' ys) :
    Calls Tryd.prog 32 #[.slice a n c, .slice a' n' c'] w fun e w' => e = .returned (.bool ((strOfNums xs).toList == (strOfNums ys).toList)) ∧ w' = w := by
  have g1 := conv_bs h
  have g2 := conv_bs h'
  clear h h'
  go_enter Tryd.func32, Tryd.ntmps32
  go_wp2
  go_ret
  exact ⟨rfl, rfl⟩

theorem sameT (a a' : Option Addr) (n c n' c' : Nat) (xs ys : List Int) (w : World) (h : Bs w a n c xs) (h' : Bs w a' n' c' ys) (e : xs = ys) :
    Calls Tryd.prog 32 #[.slice a n c, .slice a' n' c'] w fun e w' => e = .returned (.bool true) ∧ w' = w := by
  refine (sameB a a' n c n' c' xs ys w h h').mono ?_
  rintro e' w' ⟨rfl, hw⟩
  subst e
  exact ⟨by simp, hw⟩

end Go.Proofs.YtoblilngppjmhaaDoor

/-
  What is proved here: the contract of the specification's l4carry: parts that may be great come; the contract of the specification's l4add: the sum of two numbers of the; the contract of the specification's l4mul: the product of two numbers of; contracts of the specification's l4in, l4out, l4isOk and FeOk: a number of; contracts of the specification's l4isOk, FeOk and l4sub: whether a slice.
-/
import Derived.Test.YtihoaakbkffejaaGreatDoorFYe
import Derived.Deep.RegionHeld3
namespace Go.Proofs.YtihoaakbkffejaaGreatDoor
open Go.RowKit
set_option maxRecDepth 100000

def Gp (l : List Int) : Prop := ∀ x ∈ l, 0 ≤ x ∧ x < 70368744177664
theorem Gp.get {l : List Int} (h : Gp l) (k : Nat) : 0 ≤ l.getD k 0 ∧ l.getD k 0 < 70368744177664 := by
 by_cases hk : k < l.length
 ·have : l.getD k 0 ∈ l := by rw [List.getD_eq_getElem?_getD, List.getElem?_eq_getElem hk]; exact List.getElem_mem _
  exact h _ this
 ·rw [List.getD_eq_getElem?_getD, List.getElem?_eq_none (by omega)]; simp
theorem cpc_le {l : List Int} (h : Gp l) : ∀ {c : Int}, 0 ≤ c → c ≤ 2147483648 → 0 ≤ cpc l c ∧ cpc l c ≤ 2147483648 := by
 induction l with
 | nil => intro c h0 h1; exact ⟨h0, h1⟩
 | cons x l ih =>
  intro c h0 h1
  have hx := h x (by simp)
  exact ih (fun y hy => h y (by simp [hy])) (by omega) (by omega)
theorem Gp.take {l : List Int} (h : Gp l) (k : Nat) : Gp (l.take k) := fun x hx => h x (List.mem_of_mem_take hx)
theorem rnd16_gp {l : List Int} (h : Gp l) : Gp (rnd16 l) := by
 intro x hx
 unfold rnd16 addH0 at hx
 have hc := cpc_le h (c := 0) (by omega) (by omega)
 have hl : Lm (cps l 0) := by rw [cps_lim]; exact lim_lm _ _
 rcases List.mem_or_eq_of_mem_set hx with h1 | h1
 ·have := hl x h1; omega
 ·subst h1
  have := gD_lm hl 0
  omega
theorem gp_val {l : List Int} (hl : l.length = 16) (h : Gp l) : 0 ≤ val l ∧ val l < 1989292945639146568621528992587283360401824603189390869761855907572637988050133502132224 := by
 refine ⟨val_nonneg (fun x hx => (h x hx).1), ?_⟩
 have key : ∀ (m : List Int), Gp m → 65535 * val m ≤ 70368744177663 * (65536 ^ m.length - 1) := by
  intro m
  induction m with
  | nil => intro _; simp [val]
  | cons x m ih =>
   intro hm
   have hx := hm x (by simp)
   have := ih (fun y hy => hm y (by simp [hy]))
   simp only [val, List.length_cons, Int.pow_succ]
   omega
 have := key l h
 rw [hl, p256] at this
 omega
def iter16 (l : List Int) : Nat → List Int
 | 0 => l
 | k + 1 => rnd16 (iter16 l k)
theorem iter16_len (l : List Int) (k : Nat) : (iter16 l k).length = l.length := by
 induction k with
 | zero => rfl
 | succ k ih => rw [iter16, rnd16_len, ih]
theorem iter16_gp {l : List Int} (h : Gp l) (k : Nat) : Gp (iter16 l k) := by
 induction k with
 | zero => exact h
 | succ k ih => exact rnd16_gp ih
theorem top5_gp {l : List Int} (h : Lm l) : Gp (top5 l) := by
 intro x hx
 unfold top5 addH0 at hx
 have h15 := gD_lm h 15
 have h0 := gD_lm h 0
 rcases List.mem_or_eq_of_mem_set hx with h1 | h1
 ·rcases List.mem_or_eq_of_mem_set h1 with h2 | h2
  ·have := h x h2; omega
  ·omega
 ·omega

def cpa (l : List Int) (k : Nat) : List Int := cps (l.take k) 0 ++ l.drop k
theorem cpa_zero (l : List Int) : cpa l 0 = l := by simp [cpa, cps]
theorem cpa_len {l : List Int} {k : Nat} (hk : k ≤ l.length) : (cpa l k).length = l.length := by
 unfold cpa; rw [len_app (by rw [cps_len]; simp; omega) hk]
theorem cpa_get {l : List Int} {k : Nat} (hk : k < l.length) : (cpa l k).getD k 0 = l.getD k 0 := by
 unfold cpa; exact get_app (by rw [cps_len]; simp; omega)
theorem cpa_set {l : List Int} {k : Nat} (hk : k < l.length) {v : Int} (hv : v = (l.getD k 0 + cpc (l.take k) 0) % 65536) : (I64 (cpa l k)).set k (.int .i64 v) = I64 (cpa l (k + 1)) := by
 unfold cpa
 rw [set_app (by rw [cps_len]; simp; omega) hk, take_app l k hk, cps_snoc, hv]
theorem cpc_next {l : List Int} {k : Nat} (hk : k < l.length) : cpc (l.take (k + 1)) 0 = (l.getD k 0 + cpc (l.take k) 0) / 65536 := by
 rw [take_app l k hk, cpc_snoc]
theorem cpa_end {l : List Int} (h : l.length = 16) : cpa l 16 = cps l 0 ∧ cpc (l.take 16) 0 = cpc l 0 := by
 unfold cpa
 rw [List.take_of_length_le (by omega), List.drop_eq_nil_of_le (by omega)]
 simp

set_option maxHeartbeats 4000000 in
theorem specCarry (l : List Int) (w : World) (hl : l.length = 16) (hg : Gp l) :
  Calls Tryz.prog 137 #[.agg (I64 l).toArray] w fun e w' => e = .returned (.agg (I64 (red (val l))).toArray) ∧ Below w.heap.size w w' := by
 obtain ⟨A, hA⟩ : ∃ A, A = (I64 l).toArray := ⟨_, rfl⟩
 rw [← hA]
 obtain ⟨W, hW⟩ : ∃ W, W = (w.alloc (.cells A 80)).alloc (.cells (I64 Z16).toArray 80) := ⟨_, rfl⟩
 have h0 : Arr W w.heap.size 80 (I64 (iter16 l 0)) := by rw [hW, hA]; exact (Arr.new w (I64 l) _).alloc _
 have h1 : Arr W (w.heap.size + 1) 80 (I64 Z16) := by
  rw [hW]
  have := Arr.new (w.alloc (.cells A 80)) (I64 Z16) 80
  rw [World.size_alloc] at this
  exact this
 have hBl : Below w.heap.size w W := by rw [hW]; exact ((Below.refl _ _).alloc (Nat.le_refl _) _).alloc (by simp) _
 clear hA
 go_enter Tryz.func137, Tryz.ntmps137
 go_wp2
 go_loopw [3] (fun i wr => ∃ k : Nat, k ≤ 3 ∧ i = .int .i64 k ∧ Arr wr w.heap.size 80 (I64 (iter16 l k)) ∧ Arr wr (w.heap.size + 1) 80 (I64 Z16) ∧ Below w.heap.size w wr) (fun i _ => 3 - (intOf i).toNat)
 case atStart => exact ⟨0, by omega, rfl, hW ▸ h0, hW ▸ h1, hW ▸ hBl⟩
 case round =>
  clear h0 h1 hBl hW
  obtain ⟨k, hk, rfl, h0, h1, hBl⟩ := hrel
  have hLl : (iter16 l k).length = 16 := by rw [iter16_len, hl]
  have hLg := iter16_gp hg k
  by_cases hlt : k < 3
  ·have hnx : iter16 l (k + 1) = rnd16 (iter16 l k) := rfl
   obtain ⟨L, hL⟩ : ∃ L, L = iter16 l k := ⟨_, rfl⟩
   rw [← hL] at h0 hLl hLg hnx
   have HNX : Hid _ := hnx
   clear hL hnx
   have hk3 : (k : Int) < 3 := by omega
   go_wp2
   go_loopw [4, 5] (fun c i wr => ∃ (m : Nat) (d : Int), m ≤ 16 ∧ c = .int .i64 d ∧ d = cpc (L.take m) 0 ∧ i = .int .i64 m ∧ Arr wr w.heap.size 80 (I64 (cpa L m)) ∧ Arr wr (w.heap.size + 1) 80 (I64 Z16) ∧ Below w.heap.size w wr) (fun _ i _ => 16 - (intOf i).toNat)
   case atStart => exact ⟨0, 0, by omega, rfl, by simp [cpc], rfl, by simpa [cpa, cps] using h0, h1, hBl⟩
   case round =>
    clear h0 h1 hBl
    obtain ⟨m, d, hm, rfl, hd, rfl, h0, h1, hBl⟩ := hrel
    have hdb := cpc_le (hLg.take m) (c := 0) (by omega) (by omega)
    rw [← hd] at hdb
    by_cases hm16 : m < 16
    ·obtain ⟨x, hx⟩ : ∃ x, x = L.getD m 0 := ⟨_, rfl⟩
     have hxb := hLg.get m
     rw [← hx] at hxb
     have cx : wr.cell? ⟨w.heap.size, m, none⟩ = some (.int .i64 x) := by
      rw [h0.i64 m (by rw [cpa_len (by omega)]; omega), cpa_get (by omega), hx]
     have hfz := h0.frozen m
     have h0' := h0.set m (.int .i64 ((x + d) % 65536))
     rw [cpa_set (by omega) (by rw [hx, hd])] at h0'
     have hcn : cpc (L.take (m + 1)) 0 = (x + d) / 65536 := by rw [cpc_next (by omega), hx, hd]
     have h1' := h1.other ⟨w.heap.size, m, none⟩ (.int .i64 ((x + d) % 65536)) (by simp)
     have hb' := hBl.setCell (p := ⟨w.heap.size, m, none⟩) (Nat.le_refl _) (.int .i64 ((x + d) % 65536))
     have s1 : IntKind.i64.wrap (x + d) = x + d := by rw [IntKind.wrap_i64]; omega
     have s2 : bits .and .i64 (x + d) 65535 = (x + d) % 65536 := i64_low16 (by omega) (by omega)
     have hm' : (m : Int) < 16 := by omega
     have H0 : Hid _ := h0'
     have H1 : Hid _ := h1'
     have HB : Hid _ := hb'
     have HC : Hid _ := hcn
     clear h0' h1' hb' hcn h0 h1 hBl hx hd
     go_wp2
     go_roundw
     case rel => exact ⟨m + 1, (x + d) / 65536, by omega, rfl, HC.out.symm, by go_num, H0.out, H1.out, HB.out⟩
     case measure => simp [intOf]; omega
    ·obtain rfl : m = 16 := by omega
     rw [(cpa_end hLl).1] at h0
     rw [(cpa_end hLl).2] at hd
     have hcl : (cps L 0).length = 16 := by rw [cps_len, hLl]
     have hlm : Lm (cps L 0) := by rw [cps_lim]; exact lim_lm _ _
     obtain ⟨x, hx⟩ : ∃ x, x = (cps L 0).getD 0 0 := ⟨_, rfl⟩
     have hxb := gD_lm hlm 0
     rw [← hx] at hxb
     have cx : wr.cell? ⟨w.heap.size, 0, none⟩ = some (.int .i64 x) := by rw [hx]; exact h0.i64 0 (by omega)
     have hfz := h0.frozen 0
     have h0' := h0.set 0 (.int .i64 (x + 38 * d))
     have e : (I64 (cps L 0)).set 0 (.int .i64 (x + 38 * d)) = I64 (iter16 l (k + 1)) := by
      rw [HNX.out]
      unfold rnd16 addH0
      rw [← hx, ← hd]
      simp
     rw [e] at h0'
     have h1' := h1.other ⟨w.heap.size, 0, none⟩ (.int .i64 (x + 38 * d)) (by simp)
     have hb' := hBl.setCell (p := ⟨w.heap.size, 0, none⟩) (Nat.le_refl _) (.int .i64 (x + 38 * d))
     have s1 : IntKind.i64.wrap (38 * d) = 38 * d := by rw [IntKind.wrap_i64]; omega
     have s2 : IntKind.i64.wrap (x + 38 * d) = x + 38 * d := by rw [IntKind.wrap_i64]; omega
     have H0 : Hid _ := h0'
     have H1 : Hid _ := h1'
     have HB : Hid _ := hb'
     clear h0' h1' hb' e h0 h1 hBl hx hd
     go_wp2
     go_roundw
     case rel => exact ⟨k + 1, by omega, by go_num, H0.out, H1.out, HB.out⟩
     case measure => simp [intOf]; omega
  ·obtain rfl : k = 3 := by omega
   have hv := gp_val hl hg
   have h3 : iter16 l 3 = lim 16 (fold (fold (val l))) := rnd3 hl (fun x hx => (hg x hx).1) hv.2
   have hlm : Lm (iter16 l 3) := by rw [h3]; exact lim_lm _ _
   have hp5 : pre5 l = cps (top5 (iter16 l 3)) 0 := rfl
   obtain ⟨L, hL⟩ : ∃ L, L = iter16 l 3 := ⟨_, rfl⟩
   rw [← hL] at h0 hLl hlm hp5
   have hTl : (top5 L).length = 16 := by rw [top5_len, hLl]
   have hTg := top5_gp hlm
   obtain ⟨x, hx⟩ : ∃ x, x = L.getD 0 0 := ⟨_, rfl⟩
   obtain ⟨y, hy⟩ : ∃ y, y = L.getD 15 0 := ⟨_, rfl⟩
   have hxb := gD_lm hlm 0
   have hyb := gD_lm hlm 15
   rw [← hx] at hxb
   rw [← hy] at hyb
   have cx : wr.cell? ⟨w.heap.size, 0, none⟩ = some (.int .i64 x) := by rw [hx]; exact h0.i64 0 (by omega)
   have cy : wr.cell? ⟨w.heap.size, 15, none⟩ = some (.int .i64 y) := by rw [hy]; exact h0.i64 15 (by omega)
   have hfz := h0.frozen
   have h0' := (h0.set 0 (.int .i64 (x + 19 * (y / 32768)))).set 15 (.int .i64 (y % 32768))
   have e : ((I64 L).set 0 (.int .i64 (x + 19 * (y / 32768)))).set 15 (.int .i64 (y % 32768)) = I64 (top5 L) := by
    unfold top5 addH0
    rw [← hx, ← hy]
    simp
   rw [e] at h0'
   have h1' := (h1.other ⟨w.heap.size, 0, none⟩ (.int .i64 (x + 19 * (y / 32768))) (by simp)).other ⟨w.heap.size, 15, none⟩ (.int .i64 (y % 32768)) (by simp)
   have hb' := (hBl.setCell (p := ⟨w.heap.size, 0, none⟩) (Nat.le_refl _) (.int .i64 (x + 19 * (y / 32768)))).setCell (p := ⟨w.heap.size, 15, none⟩) (Nat.le_refl _) (.int .i64 (y % 32768))
   have s1 : IntKind.i64.wrap (19 * (y / 32768)) = 19 * (y / 32768) := by rw [IntKind.wrap_i64]; omega
   have s2 : IntKind.i64.wrap (x + 19 * (y / 32768)) = x + 19 * (y / 32768) := by rw [IntKind.wrap_i64]; omega
   have s3 : bits .and .i64 y 32767 = y % 32768 := i64_low15 (by omega) (by omega)
   have H0 : Hid _ := h0'
   have H1 : Hid _ := h1'
   have HB : Hid _ := hb'
   obtain ⟨T, hT⟩ : ∃ T, T = top5 L := ⟨_, rfl⟩
   have HP5 : Hid (pre5 l = cps T 0) := by unfold Hid; rw [hT]; exact hp5
   rw [← hT] at hTl hTg H0
   clear h0' h1' hb' e h0 h1 hBl hx hy h3 hlm hL hLl hLg hp5 hT
   go_wp2
   go_loopw [7, 8] (fun c i wr => ∃ (m : Nat) (d : Int), m ≤ 16 ∧ c = .int .i64 d ∧ d = cpc (T.take m) 0 ∧ i = .int .i64 m ∧ Arr wr w.heap.size 80 (I64 (cpa T m)) ∧ Arr wr (w.heap.size + 1) 80 (I64 Z16) ∧ Below w.heap.size w wr) (fun _ i _ => 16 - (intOf i).toNat)
   case atStart => exact ⟨0, 0, by omega, rfl, by simp [cpc], rfl, by rw [cpa_zero]; exact H0.out, H1.out, HB.out⟩
   case round =>
    clear H0 H1 HB cx cy hfz
    obtain ⟨m, d, hm, rfl, hd, rfl, h0, h1, hBl⟩ := hrel
    have hdb := cpc_le (hTg.take m) (c := 0) (by omega) (by omega)
    rw [← hd] at hdb
    by_cases hm16 : m < 16
    ·obtain ⟨x, hx⟩ : ∃ x, x = T.getD m 0 := ⟨_, rfl⟩
     have hxb := hTg.get m
     rw [← hx] at hxb
     have cx : wr.cell? ⟨w.heap.size, m, none⟩ = some (.int .i64 x) := by
      rw [h0.i64 m (by rw [cpa_len (by omega)]; omega), cpa_get (by omega), hx]
     have hfz := h0.frozen m
     have h0' := h0.set m (.int .i64 ((x + d) % 65536))
     rw [cpa_set (by omega) (by rw [hx, hd])] at h0'
     have hcn : cpc (T.take (m + 1)) 0 = (x + d) / 65536 := by rw [cpc_next (by omega), hx, hd]
     have h1' := h1.other ⟨w.heap.size, m, none⟩ (.int .i64 ((x + d) % 65536)) (by simp)
     have hb' := hBl.setCell (p := ⟨w.heap.size, m, none⟩) (Nat.le_refl _) (.int .i64 ((x + d) % 65536))
     have s1 : IntKind.i64.wrap (x + d) = x + d := by rw [IntKind.wrap_i64]; omega
     have s2 : bits .and .i64 (x + d) 65535 = (x + d) % 65536 := i64_low16 (by omega) (by omega)
     have hm' : (m : Int) < 16 := by omega
     have H0 : Hid _ := h0'
     have H1 : Hid _ := h1'
     have HB : Hid _ := hb'
     have HC : Hid _ := hcn
     clear h0' h1' hb' hcn h0 h1 hBl hx hd
     go_wp2
     go_roundw
     case rel => exact ⟨m + 1, (x + d) / 65536, by omega, rfl, HC.out.symm, by go_num, H0.out, H1.out, HB.out⟩
     case measure => simp [intOf]; omega
    ·obtain rfl : m = 16 := by omega
     rw [(cpa_end hTl).1, ← HP5.out] at h0
     have hgn : ∀ x ∈ l, 0 ≤ x := fun x hx => (hg x hx).1
     have hFl : (pre5 l).length = 16 := by rw [HP5.out, cps_len, hTl]
     have hFm : Lm (pre5 l) := by rw [HP5.out, cps_lim]; exact lim_lm _ _
     have hFv := pre5_val hl hgn hv.2
     have hcl := carry_lt hv.1 hv.2
     rw [← hFv] at hcl
     have hyes : val (pre5 l) < P25519 → pre5 l = red (val l) := fun h => by
      unfold red
      rw [← hcl.1 h]
      have := lim_val (pre5 l) hFm
      rw [hFl] at this
      exact this.symm
     have hno : ¬ val (pre5 l) < P25519 → tk16 (pre5 l) PL = red (val l) := fun h => by
      rw [tk16_lim hFl PL_len, PL_val]
      unfold red
      rw [← hcl.2.1 h]
     obtain ⟨F, hF⟩ : ∃ F, F = pre5 l := ⟨_, rfl⟩
     rw [← hF] at h0 hFl hFm hyes hno
     have HY : Hid _ := hyes
     have HN : Hid _ := hno
     clear hF hFv hcl hyes hno hd hdb HP5 hTl hTg
     go_wp2_with fail
     refine (specPrime _).mono ?_
     rintro e w1 ⟨rfl, hb1⟩
     have hB1 := hBl.trans (hb1.mono hBl.size)
     have h01 := h0.kept hb1
     have h11 := h1.kept hb1
     have hsz1 := h11.lt
     clear h0 h1 hBl hb1
     obtain ⟨W1, hW1⟩ : ∃ W1, W1 = w1.alloc (.cells zV 80) := ⟨_, rfl⟩
     have hz1 : Arr W1 w1.heap.size 80 (I64 Z16) := by rw [hW1]; exact Arr.new w1 (I64 Z16) _
     obtain ⟨W2, hW2⟩ : ∃ W2, W2 = W1.setRow w1.heap.size (I64 PL).toArray := ⟨_, rfl⟩
     have hp2 : Arr W2 w1.heap.size 80 (I64 PL) := by rw [hW2]; exact hz1.row (I64 PL)
     have h02 : Arr W2 w.heap.size 80 (I64 F) := by rw [hW2, hW1]; exact (h01.alloc _).rowOther _ _ (by omega)
     have h12 : Arr W2 (w.heap.size + 1) 80 (I64 Z16) := by rw [hW2, hW1]; exact (h11.alloc _).rowOther _ _ (by omega)
     have hB2 : Below w.heap.size w W2 := by rw [hW2, hW1]; exact setRow_below (hB1.alloc hB1.size _) _ _ hB1.size
     have HW1 : Hid _ := hW1
     have HW2 : Hid _ := hW2
     have hz1' := hW1 ▸ hz1
     clear h01 h11 hB1 hW1 hW2 hz1
     go_wp2_with (first
      | (refine wpList_store_row rfl 80 _ _ rfl w1.heap.size (I64 PL).toArray rfl rfl 80 (I64 Z16).toArray hz1' (by kernel_rfl) (by kernel_rfl) (by kernel_rfl) ?_; rw [← HW1.out, ← HW2.out])
      | (refine wpList_load_row rfl 80 _ rfl w.heap.size rfl 80 (I64 F).toArray (0, 0) _ h02 Tryz.underlying80 rfl (by simpa [hFl] using infoE) ?_)
      | (refine wpList_load_row rfl 80 _ rfl w1.heap.size rfl 80 (I64 PL).toArray (0, 0) _ hp2 Tryz.underlying80 rfl (by kernel_rfl) ?_))
     refine (specLess F PL _ hFl PL_len hFm PL_lm).mono ?_
     rintro e w3 ⟨rfl, hb3⟩
     have h03 := h02.kept hb3
     have h13 := h12.kept hb3
     have hp3 := hp2.kept hb3
     have hB3 := hB2.trans (hb3.mono hB2.size)
     rw [PL_val]
     clear h02 h12 hp2 hB2 hb3 HW1 HW2 hz1'
     by_cases hlp : val F < P25519
     ·have hd : decide (val F < P25519) = true := by simp [hlp]
      rw [hd]
      have hFR := HY.out hlp
      have h13' := h13.row (I64 F)
      have hb' := setRow_below hB3 (w.heap.size + 1) (I64 F).toArray (by omega)
      clear hd hlp
      go_wp2_with (first
       | (refine wpList_load_row rfl 80 _ rfl w.heap.size rfl 80 (I64 F).toArray (0, 0) _ h03 Tryz.underlying80 rfl (by simpa [hFl] using infoE) ?_)
       | (refine wpList_store_row rfl 80 _ _ rfl (w.heap.size + 1) (I64 F).toArray rfl rfl 80 _ h13 (by simpa [hFl] using infoE) (by simp [hFl]) (by simp [Value.oneCell']) ?_))
      exact bodyPost_ret (results_cell_row rfl _ _ (w.heap.size + 1) 80 (I64 F).toArray (0, 0) _ rfl h13' Tryz.underlying80 rfl (by simpa [hFl] using infoE)) rfl ⟨by rw [← hFR], hb'⟩
     ·have hd : decide (val F < P25519) = false := by simp [hlp]
      rw [hd]
      have hGR := HN.out (by omega)
      clear hd hlp
      go_wp2_with (first
       | (refine wpList_load_row rfl 80 _ rfl w.heap.size rfl 80 (I64 F).toArray (0, 0) _ h03 Tryz.underlying80 rfl (by simpa [hFl] using infoE) ?_)
       | (refine wpList_load_row rfl 80 _ rfl w1.heap.size rfl 80 (I64 PL).toArray (0, 0) _ hp3 Tryz.underlying80 rfl (by kernel_rfl) ?_))
      refine (specTake F PL _ hFl PL_len hFm PL_lm).mono ?_
      rintro e w4 ⟨rfl, hb4⟩
      have h04 := h03.kept hb4
      have h14 := h13.kept hb4
      have hB4 := hB3.trans (hb4.mono hB3.size)
      have hGl : (tk16 F PL).length = 16 := by rw [tk16_lim hFl PL_len, lim_len]
      obtain ⟨G, hG⟩ : ∃ G, G = tk16 F PL := ⟨_, rfl⟩
      rw [← hG] at hGl hGR ⊢
      have HGR : Hid _ := hGR
      clear hGR h03 h13 hp3 hB3 hb4 hG
      have h05 := h04.row (I64 G)
      have h15 := h14.rowOther w.heap.size (I64 G).toArray (by omega)
      have hB5 := setRow_below hB4 w.heap.size (I64 G).toArray (Nat.le_refl _)
      have h16 := h15.row (I64 G)
      have hb' := setRow_below hB5 (w.heap.size + 1) (I64 G).toArray (by omega)
      go_wp2_with (first
       | (refine wpList_store_row rfl 80 _ _ rfl w.heap.size (I64 G).toArray rfl rfl 80 _ h04 (by simpa [hGl] using infoE) (by simp [hGl, hFl]) (by simp [Value.oneCell']) ?_)
       | (refine wpList_load_row rfl 80 _ rfl w.heap.size rfl 80 (I64 G).toArray (0, 0) _ h05 Tryz.underlying80 rfl (by simpa [hGl] using infoE) ?_)
       | (refine wpList_store_row rfl 80 _ _ rfl (w.heap.size + 1) (I64 G).toArray rfl rfl 80 _ h15 (by simpa [hGl] using infoE) (by simp [hGl]) (by simp [Value.oneCell']) ?_))
      exact bodyPost_ret (results_cell_row rfl _ _ (w.heap.size + 1) 80 (I64 G).toArray (0, 0) _ rfl h16 Tryz.underlying80 rfl (by simpa [hGl] using infoE)) rfl ⟨by rw [← HGR.out], hb'⟩
theorem zipAdd_gp {a b : List Int} (ha : Lm a) (hb : Lm b) : Gp (List.zipWith (fun x y => x + y) a b) := by
 intro x hx
 obtain ⟨i, hi⟩ := List.mem_iff_getElem?.1 hx
 rw [List.getElem?_zipWith] at hi
 split at hi
 ·rename_i p q h1 h2
  have := ha _ (List.mem_of_getElem? h1)
  have := hb _ (List.mem_of_getElem? h2)
  simp only [Option.some.injEq] at hi
  omega
 ·cases hi

set_option maxHeartbeats 2000000 in
theorem specAdd16 (a b : List Int) (w : World) (ha : a.length = 16) (hb : b.length = 16) (la : Lm a) (lb : Lm b) :
  Calls Tryz.prog 116 #[.agg (I64 a).toArray, .agg (I64 b).toArray] w fun e w' => e = .returned (.agg (I64 (red (val a + val b))).toArray) ∧ Below w.heap.size w w' := by
 obtain ⟨A, hA⟩ : ∃ A, A = (I64 a).toArray := ⟨_, rfl⟩
 obtain ⟨B, hB⟩ : ∃ B, B = (I64 b).toArray := ⟨_, rfl⟩
 rw [← hA, ← hB]
 obtain ⟨zs, hzs⟩ : ∃ zs, zs = List.zipWith (fun x y => x + y) a b := ⟨_, rfl⟩
 have hzl : zs.length = 16 := by rw [hzs]; simp [ha, hb]
 have hzg : Gp zs := by rw [hzs]; exact zipAdd_gp la lb
 have hzv : val zs = val a + val b := by rw [hzs]; exact zipAdd_val a b (by omega)
 have hzx : ∀ k, k < 16 → zs.getD k 0 = a.getD k 0 + b.getD k 0 := by
  intro k hk
  rw [hzs]
  simp [List.getD, List.getElem?_zipWith, show k < a.length by omega, show k < b.length by omega]
 rw [← hzv]
 have HZX : Hid _ := hzx
 clear hzs hzx hzv
 obtain ⟨W, hW⟩ : ∃ W, W = ((w.alloc (.cells A 80)).alloc (.cells B 80)).alloc (.cells (I64 Z16).toArray 80) := ⟨_, rfl⟩
 have h0 : Arr W w.heap.size 80 (I64 (zs.take 0 ++ a.drop 0)) := by rw [hW, hA]; exact ((Arr.new w (I64 a) _).alloc _).alloc _
 have h1 : Arr W (w.heap.size + 1) 80 (I64 b) := by
  rw [hW, hB]
  have := (Arr.new (w.alloc (.cells A 80)) (I64 b) 80).alloc (.cells (I64 Z16).toArray 80)
  rw [World.size_alloc] at this
  exact this
 have h2 : Arr W (w.heap.size + 2) 80 (I64 Z16) := by
  rw [hW]
  have := Arr.new ((w.alloc (.cells A 80)).alloc (.cells B 80)) (I64 Z16) 80
  rw [World.size_alloc, World.size_alloc] at this
  exact this
 have hBl : Below w.heap.size w W := by rw [hW]; exact (((Below.refl _ _).alloc (Nat.le_refl _) _).alloc (by simp) _).alloc (by simp; omega) _
 clear hA hB
 go_enter Tryz.func116, Tryz.ntmps116
 go_wp2
 go_loopw [5] (fun i wr => ∃ k : Nat, k ≤ 16 ∧ i = .int .i64 k ∧ Arr wr w.heap.size 80 (I64 (zs.take k ++ a.drop k)) ∧ Arr wr (w.heap.size + 1) 80 (I64 b) ∧ Arr wr (w.heap.size + 2) 80 (I64 Z16) ∧ Below w.heap.size w wr) (fun i _ => 16 - (intOf i).toNat)
 case atStart => exact ⟨0, by omega, rfl, hW ▸ h0, hW ▸ h1, hW ▸ h2, hW ▸ hBl⟩
 case round =>
  clear h0 h1 h2 hBl hW
  obtain ⟨k, hk, rfl, h0, h1, h2, hBl⟩ := hrel
  have hfl : (zs.take k).length = k := by simp; omega
  by_cases hlt : k < 16
  ·obtain ⟨x, hx⟩ : ∃ x, x = a.getD k 0 := ⟨_, rfl⟩
   obtain ⟨y, hy⟩ : ∃ y, y = b.getD k 0 := ⟨_, rfl⟩
   have cx : wr.cell? ⟨w.heap.size, k, none⟩ = some (.int .i64 x) := by
    rw [h0.i64 k (by rw [len_app hfl (by omega)]; omega), get_app hfl, hx]
   have cy : wr.cell? ⟨w.heap.size + 1, k, none⟩ = some (.int .i64 y) := by rw [hy]; exact h1.i64 k (by omega)
   have bx := gD_lm la k
   have by' := gD_lm lb k
   rw [← hx] at bx
   rw [← hy] at by'
   have hz := HZX.out k hlt
   rw [← hx, ← hy] at hz
   have hts := take_app zs k (by omega)
   rw [hz] at hts
   have hfz := h0.frozen k
   have h0' := h0.set k (.int .i64 (x + y))
   rw [set_app hfl (show k < a.length by omega), ← hts] at h0'
   have h1' := h1.other ⟨w.heap.size, k, none⟩ (.int .i64 (x + y)) (by simp)
   have h2' := h2.other ⟨w.heap.size, k, none⟩ (.int .i64 (x + y)) (by simp)
   have hb' := hBl.setCell (p := ⟨w.heap.size, k, none⟩) (Nat.le_refl _) (.int .i64 (x + y))
   have s1 : IntKind.i64.wrap (x + y) = x + y := by rw [IntKind.wrap_i64]; omega
   have hk16 : (k : Int) < 16 := by omega
   have hk0 : (0 : Int) ≤ (k : Int) := by omega
   have H0 : Hid _ := h0'.drew
   have H1 : Hid _ := h1'.drew
   have H2 : Hid _ := h2'.drew
   have HB : Hid _ := hb'.drew
   clear h0' h1' h2' hb' h0 h1 h2 hBl hx hy hz hts
   go_wp2
   go_region
   clear cx cy hfz
   go_wp2
   go_roundw
   case rel => exact ⟨k + 1, by omega, by go_num, H0.out, H1.out, H2.out, HB.out⟩
   case measure => simp [intOf]; omega
  ·obtain rfl : k = 16 := by omega
   rw [List.take_of_length_le (by omega), List.drop_eq_nil_of_le (by omega), List.append_nil] at h0
   clear hfl h1
   go_wp2_with (refine wpList_load_row rfl 80 _ rfl w.heap.size rfl 80 (I64 zs).toArray (0, 0) _ h0 Tryz.underlying80 rfl (by simpa [hzl] using infoE) ?_)
   refine (specCarry zs _ hzl hzg).mono ?_
   rintro e w1 ⟨rfl, hb1⟩
   have h21 := h2.kept hb1
   have hB1 := hBl.trans (hb1.mono hBl.size)
   have hRl := red_len (val zs)
   obtain ⟨R, hR⟩ : ∃ R, R = red (val zs) := ⟨_, rfl⟩
   rw [← hR] at hRl ⊢
   have HR : Hid _ := hR
   have h22 := h21.row (I64 R)
   have hb2 := setRow_below hB1 (w.heap.size + 2) (I64 R).toArray (by omega)
   clear hR h0 h2 hBl hb1
   go_wp2_with (refine wpList_store_row rfl 80 _ _ rfl (w.heap.size + 2) (I64 R).toArray rfl rfl 80 _ h21 (by simpa [hRl] using infoE) (by simp [hRl]) (by simp [Value.oneCell']) ?_)
   exact bodyPost_ret (results_cell_row rfl _ _ (w.heap.size + 2) 80 (I64 R).toArray (0, 0) _ rfl h22 Tryz.underlying80 rfl (by simpa [hRl] using infoE)) rfl ⟨by rw [HR.out], hb2⟩
theorem mul_part {x y : Int} (hx0 : 0 ≤ x) (hx1 : x < 65536) (hy0 : 0 ≤ y) (hy1 : y < 65536) : 0 ≤ x * y ∧ x * y ≤ 4294836225 := by
 refine ⟨Int.mul_nonneg hx0 hy0, ?_⟩
 have h1 : x * y ≤ 65535 * y := Int.mul_le_mul_of_nonneg_right (by omega) hy0
 omega
theorem set_mid {f r : List Int} {k : Nat} (hf : f.length = k) (x v : Int) : (I64 (f ++ [x] ++ r)).set k (.int .i64 v) = I64 (f ++ [v] ++ r) := by
 subst hf
 simp [List.set_append_right]
structure Tp (a b t : List Int) (i k : Nat) : Prop where
 len : t.length = 31
 vl : val t = prodAt a b i k
 le : ∀ x ∈ t, 0 ≤ x ∧ x ≤ (16 * (i : Int) + (k : Int)) * 4294836225
theorem Tp.get {a b t : List Int} {i k : Nat} (h : Tp a b t i k) (j : Nat) : 0 ≤ t.getD j 0 ∧ t.getD j 0 ≤ (16 * (i : Int) + (k : Int)) * 4294836225 := by
 by_cases hj : j < t.length
 ·have : t.getD j 0 ∈ t := by rw [List.getD_eq_getElem?_getD, List.getElem?_eq_getElem hj]; exact List.getElem_mem _
  exact h.le _ this
 ·rw [List.getD_eq_getElem?_getD, List.getElem?_eq_none (by omega)]; simp; omega
theorem Tp.step {a b t : List Int} {i k : Nat} (h : Tp a b t i k) (hi : i < 16) (hk : k < b.length) (hk16 : k < 16) {p : Int} (hp : p = a.getD i 0 * b.getD k 0) (hp0 : 0 ≤ p) (hp1 : p ≤ 4294836225) : Tp a b (t.set (i + k) (t.getD (i + k) 0 + p)) i (k + 1) := by
 have hl := h.len
 have hg := h.get (i + k)
 refine ⟨by simp [hl], ?_, ?_⟩
 ·rw [val_set t (i + k) (by omega), h.vl, prodAt_step a b i k hk, hp]
  congr 2
  omega
 ·intro x hx
  rcases List.mem_or_eq_of_mem_set hx with h1 | h1
  ·have := h.le x h1
   simp only [Int.natCast_add, Int.natCast_one]
   omega
  ·subst h1
   simp only [Int.natCast_add, Int.natCast_one]
   omega
theorem Tp.row {a b t : List Int} {i : Nat} (h : Tp a b t i 16) (hb : b.length = 16) (hi : i < a.length) : Tp a b t (i + 1) 0 := by
 refine ⟨h.len, ?_, fun x hx => ?_⟩
 ·rw [h.vl, ← prodAt_row a b i hi, hb]
 ·have := h.le x hx
  simp only [Int.natCast_add, Int.natCast_one] at this ⊢
  omega

theorem zip38_val : ∀ (a b : List Int), a.length = b.length → val (List.zipWith (fun x y => x + 38 * y) a b) = val a + 38 * val b
 | [], [], _ => by simp [val]
 | x :: a, y :: b, h => by
  have := zip38_val a b (by simpa using h)
  simp only [List.zipWith_cons_cons, val, this]
  omega
 | [], _ :: _, h => by simp at h
 | _ :: _, [], h => by simp at h
def fo16 (t : List Int) : List Int := List.zipWith (fun x y => x + 38 * y) (t.take 16) (t.drop 16 ++ [0])
theorem fo16_len {t : List Int} (h : t.length = 31) : (fo16 t).length = 16 := by simp [fo16, h]
theorem fo16_get {t : List Int} (h : t.length = 31) (j : Nat) (hj : j < 16) : (fo16 t).getD j 0 = t.getD j 0 + (if j < 15 then 38 * t.getD (j + 16) 0 else 0) := by
 unfold fo16
 have e1 : (t.take 16)[j]? = some (t.getD j 0) := by
  rw [List.getElem?_take]
  simp [hj, show j < t.length by omega]
 have e2 : (t.drop 16 ++ [0])[j]? = some (if j < 15 then t.getD (j + 16) 0 else 0) := by
  by_cases h15 : j < 15
  ·rw [List.getElem?_append_left (by simp; omega), List.getElem?_drop]
   simp [h15, Nat.add_comm 16 j, show j + 16 < t.length by omega]
  ·have : j = 15 := by omega
   subst this
   rw [List.getElem?_append_right (by simp; omega)]
   simp [h]
 rw [List.getD, List.getElem?_zipWith, e1, e2]
 simp only [Option.getD_some]
 split <;> omega
theorem fo16_mod {t : List Int} (h : t.length = 31) : val (fo16 t) % P25519 = val t % P25519 := by
 have e : val t = val (t.take 16) + 65536 ^ 16 * val (t.drop 16) := by
  conv => lhs; rw [← List.take_append_drop 16 t]
  rw [val_append]
  simp [h]
 unfold fo16
 rw [zip38_val _ _ (by simp [h]), val_append, e, p256]
 simp only [val]
 unfold P25519
 omega
theorem fo16_gp {a b t : List Int} (h : Tp a b t 16 0) : Gp (fo16 t) := by
 intro x hx
 obtain ⟨j, hj⟩ := List.mem_iff_getElem?.1 hx
 have hjl := (List.getElem?_eq_some_iff.1 hj).1
 rw [fo16_len h.len] at hjl
 have e := fo16_get h.len j hjl
 rw [List.getD, hj] at e
 simp only [Option.getD_some] at e
 have h1 := h.get j
 have h2 := h.get (j + 16)
 subst e
 split <;> omega

abbrev Z31 : List Int := [0, 0, 0, 0, 0, 0, 0, 0, 0, 0, 0, 0, 0, 0, 0, 0, 0, 0, 0, 0, 0, 0, 0, 0, 0, 0, 0, 0, 0, 0, 0]
theorem Tp.zero (a b : List Int) : Tp a b Z31 0 0 := by
 refine ⟨rfl, ?_, ?_⟩
 ·simp [prodAt, val]
 ·intro x hx
  have : x = 0 := by simpa using hx
  omega

set_option maxHeartbeats 4000000 in
theorem specMul16 (a b : List Int) (w : World) (ha : a.length = 16) (hb : b.length = 16) (la : Lm a) (lb : Lm b) :
  Calls Tryz.prog 113 #[.agg (I64 a).toArray, .agg (I64 b).toArray] w fun e w' => e = .returned (.agg (I64 (red (val a * val b))).toArray) ∧ Below w.heap.size w w' := by
 obtain ⟨A, hA⟩ : ∃ A, A = (I64 a).toArray := ⟨_, rfl⟩
 obtain ⟨B, hB⟩ : ∃ B, B = (I64 b).toArray := ⟨_, rfl⟩
 rw [← hA, ← hB]
 obtain ⟨W, hW⟩ : ∃ W, W = (((w.alloc (.cells A 80)).alloc (.cells B 80)).alloc (.cells (I64 Z16).toArray 80)).alloc (.cells (I64 Z31).toArray 188) := ⟨_, rfl⟩
 have h0 : Arr W w.heap.size 80 (I64 a) := by rw [hW, hA]; exact (((Arr.new w (I64 a) _).alloc _).alloc _).alloc _
 have h1 : Arr W (w.heap.size + 1) 80 (I64 b) := by
  rw [hW, hB]
  have := ((Arr.new (w.alloc (.cells A 80)) (I64 b) 80).alloc (.cells (I64 Z16).toArray 80)).alloc (.cells (I64 Z31).toArray 188)
  rw [World.size_alloc] at this
  exact this
 have h2 : Arr W (w.heap.size + 2) 80 (I64 Z16) := by
  rw [hW]
  have := (Arr.new ((w.alloc (.cells A 80)).alloc (.cells B 80)) (I64 Z16) 80).alloc (.cells (I64 Z31).toArray 188)
  rw [World.size_alloc, World.size_alloc] at this
  exact this
 have h3 : Arr W (w.heap.size + 3) 188 (I64 Z31) := by
  rw [hW]
  have := Arr.new (((w.alloc (.cells A 80)).alloc (.cells B 80)).alloc (.cells (I64 Z16).toArray 80)) (I64 Z31) 188
  rw [World.size_alloc, World.size_alloc, World.size_alloc] at this
  exact this
 have hBl : Below w.heap.size w W := by rw [hW]; exact ((((Below.refl _ _).alloc (Nat.le_refl _) _).alloc (by simp) _).alloc (by simp; omega) _).alloc (by simp; omega) _
 clear hA hB
 go_enter Tryz.func113, Tryz.ntmps113
 go_wp2
 go_loopw [6] (fun i wr => ∃ (k : Nat) (t : List Int), k ≤ 16 ∧ i = .int .i64 k ∧ Tp a b t k 0 ∧ Arr wr w.heap.size 80 (I64 a) ∧ Arr wr (w.heap.size + 1) 80 (I64 b) ∧ Arr wr (w.heap.size + 2) 80 (I64 Z16) ∧ Arr wr (w.heap.size + 3) 188 (I64 t) ∧ Below w.heap.size w wr) (fun i _ => 16 - (intOf i).toNat)
 case atStart => exact ⟨0, Z31, by omega, rfl, Tp.zero a b, hW ▸ h0, hW ▸ h1, hW ▸ h2, hW ▸ h3, hW ▸ hBl⟩
 case round =>
  clear h0 h1 h2 h3 hBl hW
  obtain ⟨i, t, hi, rfl, TP, h0, h1, h2, h3, hBl⟩ := hrel
  by_cases hi16 : i < 16
  ·have hi' : (i : Int) < 16 := by omega
   go_wp2
   go_loopw [7] (fun c wr => ∃ (k : Nat) (t : List Int), k ≤ 16 ∧ c = .int .i64 k ∧ Tp a b t i k ∧ Arr wr w.heap.size 80 (I64 a) ∧ Arr wr (w.heap.size + 1) 80 (I64 b) ∧ Arr wr (w.heap.size + 2) 80 (I64 Z16) ∧ Arr wr (w.heap.size + 3) 188 (I64 t) ∧ Below w.heap.size w wr) (fun c _ => 16 - (intOf c).toNat)
   case atStart => exact ⟨0, t, by omega, rfl, TP, h0, h1, h2, h3, hBl⟩
   case round =>
    clear h0 h1 h2 h3 hBl TP t
    obtain ⟨k, t, hk, rfl, TP, h0, h1, h2, h3, hBl⟩ := hrel
    by_cases hk16 : k < 16
    ·obtain ⟨x, hx⟩ : ∃ x, x = a.getD i 0 := ⟨_, rfl⟩
     obtain ⟨y, hy⟩ : ∃ y, y = b.getD k 0 := ⟨_, rfl⟩
     obtain ⟨z, hz⟩ : ∃ z, z = t.getD (i + k) 0 := ⟨_, rfl⟩
     have bx := gD_lm la i
     have by' := gD_lm lb k
     have bz := TP.get (i + k)
     rw [← hx] at bx
     rw [← hy] at by'
     rw [← hz] at bz
     have cx : wr.cell? ⟨w.heap.size, i, none⟩ = some (.int .i64 x) := by rw [hx]; exact h0.i64 i (by omega)
     have cy : wr.cell? ⟨w.heap.size + 1, k, none⟩ = some (.int .i64 y) := by rw [hy]; exact h1.i64 k (by omega)
     have htl := TP.len
     have cz : wr.cell? ⟨w.heap.size + 3, i + k, none⟩ = some (.int .i64 z) := by rw [hz]; exact h3.i64 (i + k) (by omega)
     have hpb := mul_part bx.1 bx.2 by'.1 by'.2
     have TP2 := TP.step hi16 (by omega) hk16 (p := x * y) (by rw [hx, hy]) hpb.1 hpb.2
     rw [← hz] at TP2
     obtain ⟨p, hp⟩ : ∃ p, p = x * y := ⟨_, rfl⟩
     rw [← hp] at TP2 hpb
     have s0 : IntKind.i64.wrap (x * y) = p := by rw [← hp, IntKind.wrap_i64]; omega
     have s1 : IntKind.i64.wrap (z + p) = z + p := by rw [IntKind.wrap_i64]; omega
     have s2 : IntKind.i64.wrap ((i : Int) + (k : Int)) = (i : Int) + (k : Int) := by rw [IntKind.wrap_i64]; omega
     have s3 : ((i : Int) + (k : Int)).toNat = i + k := by omega
     have s4 : (i : Int) + (k : Int) < 31 := by omega
     have s5 : (0 : Int) ≤ (i : Int) + (k : Int) := by omega
     have s6 : (0 : Int) ≤ (i : Int) := by omega
     have s7 : (0 : Int) ≤ (k : Int) := by omega
     have hk' : (k : Int) < 16 := by omega
     have hfz := h3.frozen (i + k)
     have e : (I64 t).set (i + k) (.int .i64 (z + p)) = I64 (t.set (i + k) (z + p)) := by simp
     have h3' := h3.set (i + k) (.int .i64 (z + p))
     rw [e] at h3'
     have h0' := h0.other ⟨w.heap.size + 3, i + k, none⟩ (.int .i64 (z + p)) (by simp)
     have h1' := h1.other ⟨w.heap.size + 3, i + k, none⟩ (.int .i64 (z + p)) (by simp)
     have h2' := h2.other ⟨w.heap.size + 3, i + k, none⟩ (.int .i64 (z + p)) (by simp)
     have hb' := hBl.setCell (p := ⟨w.heap.size + 3, i + k, none⟩) (by simp) (.int .i64 (z + p))
     have H0 : Hid _ := h0'.drew
     have H1 : Hid _ := h1'.drew
     have H2 : Hid _ := h2'.drew
     have H3 : Hid _ := h3'.drew
     have HB : Hid _ := hb'.drew
     have HT : Hid _ := TP2
     clear h0' h1' h2' h3' hb' e h0 h1 h2 h3 hBl hx hy hz TP TP2 hp htl
     go_wp2
     go_region
     clear cx cy cz hfz
     go_wp2
     go_roundw
     case rel => exact ⟨k + 1, _, by omega, by go_num, HT.out, H0.out, H1.out, H2.out, H3.out, HB.out⟩
     case measure => simp [intOf]; omega
    ·obtain rfl : k = 16 := by omega
     have TP2 := TP.row hb (by omega)
     clear TP
     go_wp2
     go_roundw
     case rel => exact ⟨i + 1, t, by omega, by go_num, TP2, h0, h1, h2, h3, hBl⟩
     case measure => simp [intOf]; omega
  ·obtain rfl : i = 16 := by omega
   have htl := TP.len
   have hsl := fo16_len htl
   have hsg := fo16_gp TP
   have hsv : red (val (fo16 t)) = red (val a * val b) := by
    unfold red
    rw [fo16_mod htl, TP.vl, prodAt_end a b ha]
   have hsx := fo16_get htl
   have htb := TP.get
   obtain ⟨es, hes⟩ : ∃ es, es = fo16 t := ⟨_, rfl⟩
   rw [← hes] at hsl hsg hsv hsx
   have HSV : Hid _ := hsv
   have HSX : Hid _ := hsx
   have HTB : Hid _ := htb
   clear TP hes hsv hsx htb h0 h1
   have hsz := h3.lt
   obtain ⟨W3, hW3⟩ : ∃ W3, W3 = wr.alloc (.cells (I64 Z16).toArray 80) := ⟨_, rfl⟩
   have g4 : Arr W3 wr.heap.size 80 (I64 (es.take 0 ++ Z16.drop 0)) := by rw [hW3]; exact Arr.new wr (I64 Z16) _
   have g2 : Arr W3 (w.heap.size + 2) 80 (I64 Z16) := by rw [hW3]; exact h2.alloc _
   have g3 : Arr W3 (w.heap.size + 3) 188 (I64 t) := by rw [hW3]; exact h3.alloc _
   have gB : Below w.heap.size w W3 := by rw [hW3]; exact hBl.alloc hBl.size _
   obtain ⟨E, hE⟩ : ∃ E, E = wr.heap.size := ⟨_, rfl⟩
   clear h2 h3 hBl
   go_wp2
   rw [← hE] at g4 hsz ⊢
   go_loopw [9] (fun i wr' => ∃ k : Nat, k ≤ 16 ∧ i = .int .i64 k ∧ Arr wr' E 80 (I64 (es.take k ++ Z16.drop k)) ∧ Arr wr' (w.heap.size + 2) 80 (I64 Z16) ∧ Arr wr' (w.heap.size + 3) 188 (I64 t) ∧ Below w.heap.size w wr') (fun i _ => 16 - (intOf i).toNat)
   case atStart => exact ⟨0, by omega, rfl, hW3 ▸ g4, hW3 ▸ g2, hW3 ▸ g3, hW3 ▸ gB⟩
   case round =>
    clear g4 g2 g3 gB hW3 hE
    obtain ⟨k, hk, rfl, g4, g2, g3, gB⟩ := hrel
    have hfl : (es.take k).length = k := by simp; omega
    by_cases hlt : k < 16
    ·obtain ⟨x, hx⟩ : ∃ x, x = t.getD k 0 := ⟨_, rfl⟩
     have hxb := HTB.out k
     rw [← hx] at hxb
     have hek := HSX.out k hlt
     rw [← hx] at hek
     have cx : wr.cell? ⟨w.heap.size + 3, k, none⟩ = some (.int .i64 x) := by rw [hx]; exact g3.i64 k (by omega)
     obtain ⟨u, hu⟩ : ∃ u, wr.cell? ⟨E, k, none⟩ = some u := by
      rw [g4.cell k]
      exact ⟨_, List.getElem?_eq_getElem (by simp [hsl]; omega)⟩
     have hfz := g4.frozen k
     have hk16 : (k : Int) < 16 := by omega
     have hk0 : (0 : Int) ≤ (k : Int) := by omega
     have hne3 : w.heap.size + 3 ≠ E := by omega
     have hne2 : w.heap.size + 2 ≠ E := by omega
     have hts := take_app es k (by omega)
     have hs := fun v => g4.set k (.int .i64 v)
     simp only [set_app hfl (show k < Z16.length from hlt)] at hs
     have HTS : Hid _ := hts
     clear hts hx
     by_cases h15 : k < 15
     ·have h15' : (k : Int) < 15 := by omega
      obtain ⟨y, hy⟩ : ∃ y, y = t.getD (k + 16) 0 := ⟨_, rfl⟩
      have hyb := HTB.out (k + 16)
      rw [← hy] at hyb
      rw [if_pos h15, ← hy] at hek
      have cy : (wr.setCell ⟨E, k, none⟩ (.int .i64 x)).cell? ⟨w.heap.size + 3, k + 16, none⟩ = some (.int .i64 y) := by
       rw [hy]; exact (g3.other ⟨E, k, none⟩ (.int .i64 x) hne3).i64 (k + 16) (by omega)
      have cz : (wr.setCell ⟨E, k, none⟩ (.int .i64 x)).cell? ⟨E, k, none⟩ = some (.int .i64 x) := World.cell?_setCell_same' _ _ _ (by rw [hu]; rfl)
      have hfz2 : (wr.setCell ⟨E, k, none⟩ (.int .i64 x)).frozen? ⟨E, k, none⟩ = false := by rw [World.frozen?_setCell]; exact hfz
      have s1 : IntKind.i64.wrap ((k : Int) + 16) = (k : Int) + 16 := by rw [IntKind.wrap_i64]; omega
      have s2 : ((k : Int) + 16).toNat = k + 16 := by omega
      have s3 : (k : Int) + 16 < 31 := by omega
      have s4 : (0 : Int) ≤ (k : Int) + 16 := by omega
      have s5 : IntKind.i64.wrap (38 * y) = 38 * y := by rw [IntKind.wrap_i64]; omega
      have s6 : IntKind.i64.wrap (x + 38 * y) = x + 38 * y := by rw [IntKind.wrap_i64]; omega
      have g4' := (hs x).set k (.int .i64 (x + 38 * y))
      have e4 : (I64 (es.take k ++ [x] ++ Z16.drop (k + 1))).set k (.int .i64 (x + 38 * y)) = I64 (es.take (k + 1) ++ Z16.drop (k + 1)) := by
       rw [set_mid hfl, HTS.out, hek]
      rw [e4] at g4'
      have g2' := (g2.other ⟨E, k, none⟩ (.int .i64 x) hne2).other ⟨E, k, none⟩ (.int .i64 (x + 38 * y)) hne2
      have g3' := (g3.other ⟨E, k, none⟩ (.int .i64 x) hne3).other ⟨E, k, none⟩ (.int .i64 (x + 38 * y)) hne3
      have gB' := (gB.setCell (p := ⟨E, k, none⟩) (by show w.heap.size ≤ E; omega) (.int .i64 x)).setCell (p := ⟨E, k, none⟩) (by show w.heap.size ≤ E; omega) (.int .i64 (x + 38 * y))
      obtain ⟨V, hV⟩ : ∃ V, V = wr.setCell ⟨E, k, none⟩ (.int .i64 x) := ⟨_, rfl⟩
      rw [← hV] at cy cz hfz2 g4' g2' g3' gB'
      have H4 : Hid _ := g4'.drew
      have H2 : Hid _ := g2'.drew
      have H3 : Hid _ := g3'.drew
      have HB : Hid _ := gB'.drew
      clear g4' g2' g3' gB' e4 g4 g2 g3 gB hs hek hy
      go_wp2
      rw [← hV]
      clear hV hu cx hfz
      go_region
      clear cy cz hfz2
      go_wp2
      go_roundw
      case rel => exact ⟨k + 1, by omega, by go_num, H4.out, H2.out, H3.out, HB.out⟩
      case measure => simp [intOf]; omega
     ·have h15' : ¬ (k : Int) < 15 := by omega
      rw [if_neg h15, Int.add_zero] at hek
      have g4' := hs x
      rw [← hek, ← HTS.out] at g4'
      rw [hek] at g4'
      have g2' := g2.other ⟨E, k, none⟩ (.int .i64 x) hne2
      have g3' := g3.other ⟨E, k, none⟩ (.int .i64 x) hne3
      have gB' := gB.setCell (p := ⟨E, k, none⟩) (by show w.heap.size ≤ E; omega) (.int .i64 x)
      have H4 : Hid _ := g4'
      have H2 : Hid _ := g2'
      have H3 : Hid _ := g3'
      have HB : Hid _ := gB'
      clear g4' g2' g3' gB' g4 g2 g3 gB hs hek
      go_wp2
      go_roundw
      case rel => exact ⟨k + 1, by omega, by go_num, H4.out, H2.out, H3.out, HB.out⟩
      case measure => simp [intOf]; omega
    ·obtain rfl : k = 16 := by omega
     rw [List.take_of_length_le (by omega), show Z16.drop 16 = [] from rfl, List.append_nil] at g4
     clear hfl g3
     go_wp2_with (refine wpList_load_row rfl 80 _ rfl E rfl 80 (I64 es).toArray (0, 0) _ g4 Tryz.underlying80 rfl (by simpa [hsl] using infoE) ?_)
     refine (specCarry es _ hsl hsg).mono ?_
     rintro e w1 ⟨rfl, hb1⟩
     have h21 := g2.kept hb1
     have hB1 := gB.trans (hb1.mono gB.size)
     have hRl := red_len (val es)
     obtain ⟨R, hR⟩ : ∃ R, R = red (val es) := ⟨_, rfl⟩
     rw [← hR] at hRl ⊢
     have HR : Hid (R = red (val a * val b)) := by unfold Hid; rw [hR]; exact HSV.out
     have h22 := h21.row (I64 R)
     have hb2 := setRow_below hB1 (w.heap.size + 2) (I64 R).toArray (by omega)
     clear hR g4 g2 gB hb1
     go_wp2_with (refine wpList_store_row rfl 80 _ _ rfl (w.heap.size + 2) (I64 R).toArray rfl rfl 80 _ h21 (by simpa [hRl] using infoE) (by simp [hRl]) (by simp [Value.oneCell']) ?_)
     exact bodyPost_ret (results_cell_row rfl _ _ (w.heap.size + 2) 80 (I64 R).toArray (0, 0) _ rfl h22 Tryz.underlying80 rfl (by simpa [hRl] using infoE)) rfl ⟨by rw [HR.out], hb2⟩
structure Ek (w W : World) (g : Nat) (l : List Int) : Prop where
 fr : Below w.heap.size w W
 ar : Arr W g 80 (I64 l)
theorem Ek.go {w A B : World} {g : Nat} {l : List Int} (h : Ek w A g l) (hb : Below A.heap.size A B) : Ek w B g l := ⟨h.fr.trans (hb.mono h.fr.size), h.ar.kept hb⟩
theorem Ek.all {w W : World} {g : Nat} {l : List Int} (h : Ek w W g l) : W.rangeAt g 0 (I64 l) := arr_range h.ar

end Go.Proofs.YtihoaakbkffejaaGreatDoor

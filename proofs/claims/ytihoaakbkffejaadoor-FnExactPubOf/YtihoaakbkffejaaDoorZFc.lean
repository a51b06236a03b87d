/-
  What is proved here: the contract of the specification's l4carry: parts that may be great come to the number modulo 2^255 - 19; the parts are not negative and below 2^46; the contract of the specification's l4add: the sum of two numbers of the field.
-/
import Derived.Test.YtihoaakbkffejaaDoorZFq
namespace Go.Proofs.YtihoaakbkffejaaDoor
open Go.RowKit
set_option maxRecDepth 100000

/-- Parts that may be carried: not negative, below 2^46. -/
def Gp (l : List Int) : Prop := ∀ x ∈ l, 0 ≤ x ∧ x < 70368744177664
theorem Gp.get {l : List Int} (h : Gp l) (k : Nat) : 0 ≤ l.getD k 0 ∧ l.getD k 0 < 70368744177664 := by
  by_cases hk : k < l.length
  · have : l.getD k 0 ∈ l := by rw [List.getD_eq_getElem?_getD, List.getElem?_eq_getElem hk]; exact List.getElem_mem _
    exact h _ this
  · rw [List.getD_eq_getElem?_getD, List.getElem?_eq_none (by omega)]; simp
theorem cpc_le {l : List Int} (h : Gp l) : ∀ {c : Int}, 0 ≤ c → c ≤ 2147483648 → 0 ≤ cpc l c ∧ cpc l c ≤ 2147483648 := by
  induction l with
  | nil => intro c h0 h1; exact ⟨h0, h1⟩
  | cons x l ih =>
    intro c h0 h1
    have hx := h x (by simp)
    exact ih (fun y hy => h y (by simp [hy])) (by omega) (by omega)
theorem Gp.take {l : List Int} (h : Gp l) (k : Nat) : Gp (l.take k) := fun x hx => h x (List.mem_of_mem_take hx)
theorem rnd16_gp {l : List Int} (h : Gp l) : Gp (rnd16 l) := by
  intro x hx
  unfold rnd16 addH0 at hx
  have hc := cpc_le h (c := 0) (by omega) (by omega)
  have hl : Lm (cps l 0) := by rw [cps_lim]; exact lim_lm _ _
  rcases List.mem_or_eq_of_mem_set hx with h1 | h1
  · have := hl x h1; omega
  · subst h1
    have := gD_lm hl 0
    omega
theorem gp_val {l : List Int} (hl : l.length = 16) (h : Gp l) : 0 ≤ val l ∧ val l < 1989292945639146568621528992587283360401824603189390869761855907572637988050133502132224 := by
  refine ⟨val_nonneg (fun x hx => (h x hx).1), ?_⟩
  have key : ∀ (m : List Int), Gp m → 65535 * val m ≤ 70368744177663 * (65536 ^ m.length - 1) := by
    intro m
    induction m with
    | nil => intro _; simp [val]
    | cons x m ih =>
      intro hm
      have hx := hm x (by simp)
      have := ih (fun y hy => hm y (by simp [hy]))
      simp only [val, List.length_cons, Int.pow_succ]
      omega
  have := key l h
  rw [hl, p256] at this
  omega
def iter16 (l : List Int) : Nat → List Int
  | 0 => l
  | k + 1 => rnd16 (iter16 l k)
theorem iter16_len (l : List Int) (k : Nat) : (iter16 l k).length = l.length := by
  induction k with
  | zero => rfl
  | succ k ih => rw [iter16, rnd16_len, ih]
theorem iter16_gp {l : List Int} (h : Gp l) (k : Nat) : Gp (iter16 l k) := by
  induction k with
  | zero => exact h
  | succ k ih => exact rnd16_gp ih
theorem top5_gp {l : List Int} (h : Lm l) : Gp (top5 l) := by
  intro x hx
  unfold top5 addH0 at hx
  have h15 := gD_lm h 15
  have h0 := gD_lm h 0
  rcases List.mem_or_eq_of_mem_set hx with h1 | h1
  · rcases List.mem_or_eq_of_mem_set h1 with h2 | h2
    · have := h x h2; omega
    · omega
  · omega

/-- How far a pass of carrying has come. -/
def cpa (l : List Int) (k : Nat) : List Int := cps (l.take k) 0 ++ l.drop k
theorem cpa_zero (l : List Int) : cpa l 0 = l := by simp [cpa, cps]
theorem cpa_len {l : List Int} {k : Nat} (hk : k ≤ l.length) : (cpa l k).length = l.length := by
  unfold cpa; rw [len_app (by rw [cps_len]; simp; omega) hk]
theorem cpa_get {l : List Int} {k : Nat} (hk : k < l.length) : (cpa l k).getD k 0 = l.getD k 0 := by
  unfold cpa; exact get_app (by rw [cps_len]; simp; omega)
theorem cpa_set {l : List Int} {k : Nat} (hk : k < l.length) {v : Int} (hv : v = (l.getD k 0 + cpc (l.take k) 0) % 65536) : (I64 (cpa l k)).set k (.int .i64 v) = I64 (cpa l (k + 1)) := by
  unfold cpa
  rw [set_app (by rw [cps_len]; simp; omega) hk, take_app l k hk, cps_snoc, hv]
theorem cpc_next {l : List Int} {k : Nat} (hk : k < l.length) : cpc (l.take (k + 1)) 0 = (l.getD k 0 + cpc (l.take k) 0) / 65536 := by
  rw [take_app l k hk, cpc_snoc]
theorem cpa_end {l : List Int} (h : l.length = 16) : cpa l 16 = cps l 0 ∧ cpc (l.take 16) 0 = cpc l 0 := by
  unfold cpa
  rw [List.take_of_length_le (by omega), List.drop_eq_nil_of_le (by omega)]
  simp

set_option maxHeartbeats 4000000 in
theorem specCarry (l : List Int) (w : World) (hl : l.length = 16) (hg : Gp l) :
    Calls Tryd.prog 61 #[.agg (I64 l).toArray] w fun e w' => e = .returned (.agg (I64 (red (val l))).toArray) ∧ Below w.heap.size w w' := by
  obtain ⟨A, hA⟩ : ∃ A, A = (I64 l).toArray := ⟨_, rfl⟩
  rw [← hA]
  obtain ⟨W, hW⟩ : ∃ W, W = (w.alloc (.cells A 31)).alloc (.cells (I64 Z16).toArray 31) := ⟨_, rfl⟩
  have h0 : Arr W w.heap.size 31 (I64 (iter16 l 0)) := by rw [hW, hA]; exact (Arr.new w (I64 l) _).alloc _
  have h1 : Arr W (w.heap.size + 1) 31 (I64 Z16) := by
    rw [hW]
    have := Arr.new (w.alloc (.cells A 31)) (I64 Z16) 31
    rw [World.size_alloc] at this
    exact this
  have hBl : Below w.heap.size w W := by rw [hW]; exact ((Below.refl _ _).alloc (Nat.le_refl _) _).alloc (by simp) _
  clear hA
  go_enter Tryd.func61, Tryd.ntmps61
  go_wp2
  go_loopw [3] (fun i wr => ∃ k : Nat, k ≤ 3 ∧ i = .int .i64 k ∧ Arr wr w.heap.size 31 (I64 (iter16 l k)) ∧ Arr wr (w.heap.size + 1) 31 (I64 Z16) ∧ Below w.heap.size w wr) (fun i _ => 3 - (intOf i).toNat)
  case atStart => exact ⟨0, by omega, rfl, hW ▸ h0, hW ▸ h1, hW ▸ hBl⟩
  case round =>
    clear h0 h1 hBl hW
    obtain ⟨k, hk, rfl, h0, h1, hBl⟩ := hrel
    have hLl : (iter16 l k).length = 16 := by rw [iter16_len, hl]
    have hLg := iter16_gp hg k
    by_cases hlt : k < 3
    · have hnx : iter16 l (k + 1) = rnd16 (iter16 l k) := rfl
      obtain ⟨L, hL⟩ : ∃ L, L = iter16 l k := ⟨_, rfl⟩
      rw [← hL] at h0 hLl hLg hnx
      have HNX : Hid _ := hnx
      clear hL hnx
      have hk3 : (k : Int) < 3 := by omega
      go_wp2
      go_loopw [4, 5] (fun c i wr => ∃ (m : Nat) (d : Int), m ≤ 16 ∧ c = .int .i64 d ∧ d = cpc (L.take m) 0 ∧ i = .int .i64 m ∧ Arr wr w.heap.size 31 (I64 (cpa L m)) ∧ Arr wr (w.heap.size + 1) 31 (I64 Z16) ∧ Below w.heap.size w wr) (fun _ i _ => 16 - (intOf i).toNat)
      case atStart => exact ⟨0, 0, by omega, rfl, by simp [cpc], rfl, by simpa [cpa, cps] using h0, h1, hBl⟩
      case round =>
        clear h0 h1 hBl
        obtain ⟨m, d, hm, rfl, hd, rfl, h0, h1, hBl⟩ := hrel
        have hdb := cpc_le (hLg.take m) (c := 0) (by omega) (by omega)
        rw [← hd] at hdb
        by_cases hm16 : m < 16
        · obtain ⟨x, hx⟩ : ∃ x, x = L.getD m 0 := ⟨_, rfl⟩
          have hxb := hLg.get m
          rw [← hx] at hxb
          have cx : wr.cell? ⟨w.heap.size, m, none⟩ = some (.int .i64 x) := by
            rw [h0.i64 m (by rw [cpa_len (by omega)]; omega), cpa_get (by omega), hx]
          have hfz := h0.frozen m
          have h0' := h0.set m (.int .i64 ((x + d) % 65536))
          rw [cpa_set (by omega) (by rw [hx, hd])] at h0'
          have hcn : cpc (L.take (m + 1)) 0 = (x + d) / 65536 := by rw [cpc_next (by omega), hx, hd]
          have h1' := h1.other ⟨w.heap.size, m, none⟩ (.int .i64 ((x + d) % 65536)) (by simp)
          have hb' := hBl.setCell (p := ⟨w.heap.size, m, none⟩) (Nat.le_refl _) (.int .i64 ((x + d) % 65536))
          have s1 : IntKind.i64.wrap (x + d) = x + d := by rw [IntKind.wrap_i64]; omega
          have s2 : bits .and .i64 (x + d) 65535 = (x + d) % 65536 := i64_low16 (by omega) (by omega)
          have hm' : (m : Int) < 16 := by omega
          have H0 : Hid _ := h0'
          have H1 : Hid _ := h1'
          have HB : Hid _ := hb'
          have HC : Hid _ := hcn
          clear h0' h1' hb' hcn h0 h1 hBl hx hd
          go_wp2
          go_roundw
          case rel => exact ⟨m + 1, (x + d) / 65536, by omega, rfl, HC.out.symm, by go_num, H0.out, H1.out, HB.out⟩
          case measure => simp [intOf]; omega
        · obtain rfl : m = 16 := by omega
          rw [(cpa_end hLl).1] at h0
          rw [(cpa_end hLl).2] at hd
          have hcl : (cps L 0).length = 16 := by rw [cps_len, hLl]
          have hlm : Lm (cps L 0) := by rw [cps_lim]; exact lim_lm _ _
          obtain ⟨x, hx⟩ : ∃ x, x = (cps L 0).getD 0 0 := ⟨_, rfl⟩
          have hxb := gD_lm hlm 0
          rw [← hx] at hxb
          have cx : wr.cell? ⟨w.heap.size, 0, none⟩ = some (.int .i64 x) := by rw [hx]; exact h0.i64 0 (by omega)
          have hfz := h0.frozen 0
          have h0' := h0.set 0 (.int .i64 (x + 38 * d))
          have e : (I64 (cps L 0)).set 0 (.int .i64 (x + 38 * d)) = I64 (iter16 l (k + 1)) := by
            rw [HNX.out]
            unfold rnd16 addH0
            rw [← hx, ← hd]
            simp
          rw [e] at h0'
          have h1' := h1.other ⟨w.heap.size, 0, none⟩ (.int .i64 (x + 38 * d)) (by simp)
          have hb' := hBl.setCell (p := ⟨w.heap.size, 0, none⟩) (Nat.le_refl _) (.int .i64 (x + 38 * d))
          have s1 : IntKind.i64.wrap (38 * d) = 38 * d := by rw [IntKind.wrap_i64]; omega
          have s2 : IntKind.i64.wrap (x + 38 * d) = x + 38 * d := by rw [IntKind.wrap_i64]; omega
          have H0 : Hid _ := h0'
          have H1 : Hid _ := h1'
          have HB : Hid _ := hb'
          clear h0' h1' hb' e h0 h1 hBl hx hd
          go_wp2
          go_roundw
          case rel => exact ⟨k + 1, by omega, by go_num, H0.out, H1.out, HB.out⟩
          case measure => simp [intOf]; omega
    · obtain rfl : k = 3 := by omega
      have hv := gp_val hl hg
      have h3 : iter16 l 3 = lim 16 (fold (fold (val l))) := rnd3 hl (fun x hx => (hg x hx).1) hv.2
      have hlm : Lm (iter16 l 3) := by rw [h3]; exact lim_lm _ _
      have hp5 : pre5 l = cps (top5 (iter16 l 3)) 0 := rfl
      obtain ⟨L, hL⟩ : ∃ L, L = iter16 l 3 := ⟨_, rfl⟩
      rw [← hL] at h0 hLl hlm hp5
      have hTl : (top5 L).length = 16 := by rw [top5_len, hLl]
      have hTg := top5_gp hlm
      obtain ⟨x, hx⟩ : ∃ x, x = L.getD 0 0 := ⟨_, rfl⟩
      obtain ⟨y, hy⟩ : ∃ y, y = L.getD 15 0 := ⟨_, rfl⟩
      have hxb := gD_lm hlm 0
      have hyb := gD_lm hlm 15
      rw [← hx] at hxb
      rw [← hy] at hyb
      have cx : wr.cell? ⟨w.heap.size, 0, none⟩ = some (.int .i64 x) := by rw [hx]; exact h0.i64 0 (by omega)
      have cy : wr.cell? ⟨w.heap.size, 15, none⟩ = some (.int .i64 y) := by rw [hy]; exact h0.i64 15 (by omega)
      have hfz := h0.frozen
      have h0' := (h0.set 0 (.int .i64 (x + 19 * (y / 32768)))).set 15 (.int .i64 (y % 32768))
      have e : ((I64 L).set 0 (.int .i64 (x + 19 * (y / 32768)))).set 15 (.int .i64 (y % 32768)) = I64 (top5 L) := by
        unfold top5 addH0
        rw [← hx, ← hy]
        simp
      rw [e] at h0'
      have h1' := (h1.other ⟨w.heap.size, 0, none⟩ (.int .i64 (x + 19 * (y / 32768))) (by simp)).other ⟨w.heap.size, 15, none⟩ (.int .i64 (y % 32768)) (by simp)
      have hb' := (hBl.setCell (p := ⟨w.heap.size, 0, none⟩) (Nat.le_refl _) (.int .i64 (x + 19 * (y / 32768)))).setCell (p := ⟨w.heap.size, 15, none⟩) (Nat.le_refl _) (.int .i64 (y % 32768))
      have s1 : IntKind.i64.wrap (19 * (y / 32768)) = 19 * (y / 32768) := by rw [IntKind.wrap_i64]; omega
      have s2 : IntKind.i64.wrap (x + 19 * (y / 32768)) = x + 19 * (y / 32768) := by rw [IntKind.wrap_i64]; omega
      have s3 : bits .and .i64 y 32767 = y % 32768 := i64_low15 (by omega) (by omega)
      have H0 : Hid _ := h0'
      have H1 : Hid _ := h1'
      have HB : Hid _ := hb'
      obtain ⟨T, hT⟩ : ∃ T, T = top5 L := ⟨_, rfl⟩
      have HP5 : Hid (pre5 l = cps T 0) := by unfold Hid; rw [hT]; exact hp5
      rw [← hT] at hTl hTg H0
      clear h0' h1' hb' e h0 h1 hBl hx hy h3 hlm hL hLl hLg hp5 hT
      go_wp2
      go_loopw [7, 8] (fun c i wr => ∃ (m : Nat) (d : Int), m ≤ 16 ∧ c = .int .i64 d ∧ d = cpc (T.take m) 0 ∧ i = .int .i64 m ∧ Arr wr w.heap.size 31 (I64 (cpa T m)) ∧ Arr wr (w.heap.size + 1) 31 (I64 Z16) ∧ Below w.heap.size w wr) (fun _ i _ => 16 - (intOf i).toNat)
      case atStart => exact ⟨0, 0, by omega, rfl, by simp [cpc], rfl, by rw [cpa_zero]; exact H0.out, H1.out, HB.out⟩
      case round =>
        clear H0 H1 HB cx cy hfz
        obtain ⟨m, d, hm, rfl, hd, rfl, h0, h1, hBl⟩ := hrel
        have hdb := cpc_le (hTg.take m) (c := 0) (by omega) (by omega)
        rw [← hd] at hdb
        by_cases hm16 : m < 16
        · obtain ⟨x, hx⟩ : ∃ x, x = T.getD m 0 := ⟨_, rfl⟩
          have hxb := hTg.get m
          rw [← hx] at hxb
          have cx : wr.cell? ⟨w.heap.size, m, none⟩ = some (.int .i64 x) := by
            rw [h0.i64 m (by rw [cpa_len (by omega)]; omega), cpa_get (by omega), hx]
          have hfz := h0.frozen m
          have h0' := h0.set m (.int .i64 ((x + d) % 65536))
          rw [cpa_set (by omega) (by rw [hx, hd])] at h0'
          have hcn : cpc (T.take (m + 1)) 0 = (x + d) / 65536 := by rw [cpc_next (by omega), hx, hd]
          have h1' := h1.other ⟨w.heap.size, m, none⟩ (.int .i64 ((x + d) % 65536)) (by simp)
          have hb' := hBl.setCell (p := ⟨w.heap.size, m, none⟩) (Nat.le_refl _) (.int .i64 ((x + d) % 65536))
          have s1 : IntKind.i64.wrap (x + d) = x + d := by rw [IntKind.wrap_i64]; omega
          have s2 : bits .and .i64 (x + d) 65535 = (x + d) % 65536 := i64_low16 (by omega) (by omega)
          have hm' : (m : Int) < 16 := by omega
          have H0 : Hid _ := h0'
          have H1 : Hid _ := h1'
          have HB : Hid _ := hb'
          have HC : Hid _ := hcn
          clear h0' h1' hb' hcn h0 h1 hBl hx hd
          go_wp2
          go_roundw
          case rel => exact ⟨m + 1, (x + d) / 65536, by omega, rfl, HC.out.symm, by go_num, H0.out, H1.out, HB.out⟩
          case measure => simp [intOf]; omega
        · obtain rfl : m = 16 := by omega
          rw [(cpa_end hTl).1, ← HP5.out] at h0
          have hgn : ∀ x ∈ l, 0 ≤ x := fun x hx => (hg x hx).1
          have hFl : (pre5 l).length = 16 := by rw [HP5.out, cps_len, hTl]
          have hFm : Lm (pre5 l) := by rw [HP5.out, cps_lim]; exact lim_lm _ _
          have hFv := pre5_val hl hgn hv.2
          have hcl := carry_lt hv.1 hv.2
          rw [← hFv] at hcl
          have hyes : val (pre5 l) < P25519 → pre5 l = red (val l) := fun h => by
            unfold red
            rw [← hcl.1 h]
            have := lim_val (pre5 l) hFm
            rw [hFl] at this
            exact this.symm
          have hno : ¬ val (pre5 l) < P25519 → tk16 (pre5 l) PL = red (val l) := fun h => by
            rw [tk16_lim hFl PL_len, PL_val]
            unfold red
            rw [← hcl.2.1 h]
          obtain ⟨F, hF⟩ : ∃ F, F = pre5 l := ⟨_, rfl⟩
          rw [← hF] at h0 hFl hFm hyes hno
          have HY : Hid _ := hyes
          have HN : Hid _ := hno
          clear hF hFv hcl hyes hno hd hdb HP5 hTl hTg
          go_wp2_with fail
          refine (specPrime _).mono ?_
          rintro e w1 ⟨rfl, hb1⟩
          have hB1 := hBl.trans (hb1.mono hBl.size)
          have h01 := h0.kept hb1
          have h11 := h1.kept hb1
          have hsz1 := h11.lt
          clear h0 h1 hBl hb1
          obtain ⟨W1, hW1⟩ : ∃ W1, W1 = w1.alloc (.cells #[.int .i64 0, .int .i64 0, .int .i64 0, .int .i64 0, .int .i64 0, .int .i64 0, .int .i64 0, .int .i64 0, .int .i64 0, .int .i64 0, .int .i64 0, .int .i64 0, .int .i64 0, .int .i64 0, .int .i64 0, .int .i64 0] 31) := ⟨_, rfl⟩
          have hz1 : Arr W1 w1.heap.size 31 (I64 Z16) := by rw [hW1]; exact Arr.new w1 (I64 Z16) _
          obtain ⟨W2, hW2⟩ : ∃ W2, W2 = W1.setRow w1.heap.size (I64 PL).toArray := ⟨_, rfl⟩
          have hp2 : Arr W2 w1.heap.size 31 (I64 PL) := by rw [hW2]; exact hz1.row (I64 PL)
          have h02 : Arr W2 w.heap.size 31 (I64 F) := by rw [hW2, hW1]; exact (h01.alloc _).rowOther _ _ (by omega)
          have h12 : Arr W2 (w.heap.size + 1) 31 (I64 Z16) := by rw [hW2, hW1]; exact (h11.alloc _).rowOther _ _ (by omega)
          have hB2 : Below w.heap.size w W2 := by rw [hW2, hW1]; exact setRow_below (hB1.alloc hB1.size _) _ _ hB1.size
          have HW1 : Hid _ := hW1
          have HW2 : Hid _ := hW2
          have hz1' := hW1 ▸ hz1
          clear h01 h11 hB1 hW1 hW2 hz1
          go_wp2_with (first
            | (refine wpList_store_row rfl 31 _ _ rfl w1.heap.size (I64 PL).toArray rfl rfl 31 (I64 Z16).toArray hz1' (by kernel_rfl) (by kernel_rfl) (by kernel_rfl) ?_; rw [← HW1.out, ← HW2.out])
            | (refine wpList_load_row rfl 31 _ rfl w.heap.size rfl 31 (I64 F).toArray (0, 0) _ h02 Tryd.underlying31 rfl (by simpa [hFl] using infoE) ?_)
            | (refine wpList_load_row rfl 31 _ rfl w1.heap.size rfl 31 (I64 PL).toArray (0, 0) _ hp2 Tryd.underlying31 rfl (by kernel_rfl) ?_))
          refine (specLess F PL _ hFl PL_len hFm PL_lm).mono ?_
          rintro e w3 ⟨rfl, hb3⟩
          have h03 := h02.kept hb3
          have h13 := h12.kept hb3
          have hp3 := hp2.kept hb3
          have hB3 := hB2.trans (hb3.mono hB2.size)
          rw [PL_val]
          clear h02 h12 hp2 hB2 hb3 HW1 HW2 hz1'
          by_cases hlp : val F < P25519
          · have hd : decide (val F < P25519) = true := by simp [hlp]
            rw [hd]
            have hFR := HY.out hlp
            have h13' := h13.row (I64 F)
            have hb' := setRow_below hB3 (w.heap.size + 1) (I64 F).toArray (by omega)
            clear hd hlp
            go_wp2_with (first
              | (refine wpList_load_row rfl 31 _ rfl w.heap.size rfl 31 (I64 F).toArray (0, 0) _ h03 Tryd.underlying31 rfl (by simpa [hFl] using infoE) ?_)
              | (refine wpList_store_row rfl 31 _ _ rfl (w.heap.size + 1) (I64 F).toArray rfl rfl 31 _ h13 (by simpa [hFl] using infoE) (by simp [hFl]) (by simp [Value.oneCell']) ?_))
            exact bodyPost_ret (results_cell_row rfl _ _ (w.heap.size + 1) 31 (I64 F).toArray (0, 0) _ rfl h13' Tryd.underlying31 rfl (by simpa [hFl] using infoE)) rfl ⟨by rw [← hFR], hb'⟩
          · have hd : decide (val F < P25519) = false := by simp [hlp]
            rw [hd]
            have hGR := HN.out (by omega)
            clear hd hlp
            go_wp2_with (first
              | (refine wpList_load_row rfl 31 _ rfl w.heap.size rfl 31 (I64 F).toArray (0, 0) _ h03 Tryd.underlying31 rfl (by simpa [hFl] using infoE) ?_)
              | (refine wpList_load_row rfl 31 _ rfl w1.heap.size rfl 31 (I64 PL).toArray (0, 0) _ hp3 Tryd.underlying31 rfl (by kernel_rfl) ?_))
            refine (specTake F PL _ hFl PL_len hFm PL_lm).mono ?_
            rintro e w4 ⟨rfl, hb4⟩
            have h04 := h03.kept hb4
            have h14 := h13.kept hb4
            have hB4 := hB3.trans (hb4.mono hB3.size)
            have hGl : (tk16 F PL).length = 16 := by rw [tk16_lim hFl PL_len, lim_len]
            obtain ⟨G, hG⟩ : ∃ G, G = tk16 F PL := ⟨_, rfl⟩
            rw [← hG] at hGl hGR ⊢
            have HGR : Hid _ := hGR
            clear hGR h03 h13 hp3 hB3 hb4 hG
            have h05 := h04.row (I64 G)
            have h15 := h14.rowOther w.heap.size (I64 G).toArray (by omega)
            have hB5 := setRow_below hB4 w.heap.size (I64 G).toArray (Nat.le_refl _)
            have h16 := h15.row (I64 G)
            have hb' := setRow_below hB5 (w.heap.size + 1) (I64 G).toArray (by omega)
            go_wp2_with (first
              | (refine wpList_store_row rfl 31 _ _ rfl w.heap.size (I64 G).toArray rfl rfl 31 _ h04 (by simpa [hGl] using infoE) (by simp [hGl, hFl]) (by simp [Value.oneCell']) ?_)
              | (refine wpList_load_row rfl 31 _ rfl w.heap.size rfl 31 (I64 G).toArray (0, 0) _ h05 Tryd.underlying31 rfl (by simpa [hGl] using infoE) ?_)
              | (refine wpList_store_row rfl 31 _ _ rfl (w.heap.size + 1) (I64 G).toArray rfl rfl 31 _ h15 (by simpa [hGl] using infoE) (by simp [hGl]) (by simp [Value.oneCell']) ?_))
            exact bodyPost_ret (results_cell_row rfl _ _ (w.heap.size + 1) 31 (I64 G).toArray (0, 0) _ rfl h16 Tryd.underlying31 rfl (by simpa [hGl] using infoE)) rfl ⟨by rw [← HGR.out], hb'⟩
end Go.Proofs.YtihoaakbkffejaaDoor
namespace Go.Proofs.YtihoaakbkffejaaDoor
open Go.RowKit
set_option maxRecDepth 100000

theorem zipAdd_gp {a b : List Int} (ha : Lm a) (hb : Lm b) : Gp (List.zipWith (fun x y => x + y) a b) := by
  intro x hx
  obtain ⟨i, hi⟩ := List.mem_iff_getElem?.1 hx
  rw [List.getElem?_zipWith] at hi
  split at hi
  · rename_i p q h1 h2
    have := ha _ (List.mem_of_getElem? h1)
    have := hb _ (List.mem_of_getElem? h2)
    simp only [Option.some.injEq] at hi
    omega
  · cases hi

set_option maxHeartbeats 2000000 in
theorem specAdd16 (a b : List Int) (w : World) (ha : a.length = 16) (hb : b.length = 16) (la : Lm a) (lb : Lm b) :
    Calls Tryd.prog 36 #[.agg (I64 a).toArray, .agg (I64 b).toArray] w fun e w' => e = .returned (.agg (I64 (red (val a + val b))).toArray) ∧ Below w.heap.size w w' := by
  obtain ⟨A, hA⟩ : ∃ A, A = (I64 a).toArray := ⟨_, rfl⟩
  obtain ⟨B, hB⟩ : ∃ B, B = (I64 b).toArray := ⟨_, rfl⟩
  rw [← hA, ← hB]
  obtain ⟨zs, hzs⟩ : ∃ zs, zs = List.zipWith (fun x y => x + y) a b := ⟨_, rfl⟩
  have hzl : zs.length = 16 := by rw [hzs]; simp [ha, hb]
  have hzg : Gp zs := by rw [hzs]; exact zipAdd_gp la lb
  have hzv : val zs = val a + val b := by rw [hzs]; exact zipAdd_val a b (by omega)
  have hzx : ∀ k, k < 16 → zs.getD k 0 = a.getD k 0 + b.getD k 0 := by
    intro k hk
    rw [hzs]
    simp [List.getD, List.getElem?_zipWith, show k < a.length by omega, show k < b.length by omega]
  rw [← hzv]
  have HZX : Hid _ := hzx
  clear hzs hzx hzv
  obtain ⟨W, hW⟩ : ∃ W, W = ((w.alloc (.cells A 31)).alloc (.cells B 31)).alloc (.cells (I64 Z16).toArray 31) := ⟨_, rfl⟩
  have h0 : Arr W w.heap.size 31 (I64 (zs.take 0 ++ a.drop 0)) := by rw [hW, hA]; exact ((Arr.new w (I64 a) _).alloc _).alloc _
  have h1 : Arr W (w.heap.size + 1) 31 (I64 b) := by
    rw [hW, hB]
    have := (Arr.new (w.alloc (.cells A 31)) (I64 b) 31).alloc (.cells (I64 Z16).toArray 31)
    rw [World.size_alloc] at this
    exact this
  have h2 : Arr W (w.heap.size + 2) 31 (I64 Z16) := by
    rw [hW]
    have := Arr.new ((w.alloc (.cells A 31)).alloc (.cells B 31)) (I64 Z16) 31
    rw [World.size_alloc, World.size_alloc] at this
    exact this
  have hBl : Below w.heap.size w W := by rw [hW]; exact (((Below.refl _ _).alloc (Nat.le_refl _) _).alloc (by simp) _).alloc (by simp; omega) _
  clear hA hB
  go_enter Tryd.func36, Tryd.ntmps36
  go_wp2
  go_loopw [5] (fun i wr => ∃ k : Nat, k ≤ 16 ∧ i = .int .i64 k ∧ Arr wr w.heap.size 31 (I64 (zs.take k ++ a.drop k)) ∧ Arr wr (w.heap.size + 1) 31 (I64 b) ∧ Arr wr (w.heap.size + 2) 31 (I64 Z16) ∧ Below w.heap.size w wr) (fun i _ => 16 - (intOf i).toNat)
  case atStart => exact ⟨0, by omega, rfl, hW ▸ h0, hW ▸ h1, hW ▸ h2, hW ▸ hBl⟩
  case round =>
    clear h0 h1 h2 hBl hW
    obtain ⟨k, hk, rfl, h0, h1, h2, hBl⟩ := hrel
    have hfl : (zs.take k).length = k := by simp; omega
    by_cases hlt : k < 16
    · obtain ⟨x, hx⟩ : ∃ x, x = a.getD k 0 := ⟨_, rfl⟩
      obtain ⟨y, hy⟩ : ∃ y, y = b.getD k 0 := ⟨_, rfl⟩
      have cx : wr.cell? ⟨w.heap.size, k, none⟩ = some (.int .i64 x) := by
        rw [h0.i64 k (by rw [len_app hfl (by omega)]; omega), get_app hfl, hx]
      have cy : wr.cell? ⟨w.heap.size + 1, k, none⟩ = some (.int .i64 y) := by rw [hy]; exact h1.i64 k (by omega)
      have bx := gD_lm la k
      have by' := gD_lm lb k
      rw [← hx] at bx
      rw [← hy] at by'
      have hz := HZX.out k hlt
      rw [← hx, ← hy] at hz
      have hts := take_app zs k (by omega)
      rw [hz] at hts
      have hfz := h0.frozen k
      have h0' := h0.set k (.int .i64 (x + y))
      rw [set_app hfl (show k < a.length by omega), ← hts] at h0'
      have h1' := h1.other ⟨w.heap.size, k, none⟩ (.int .i64 (x + y)) (by simp)
      have h2' := h2.other ⟨w.heap.size, k, none⟩ (.int .i64 (x + y)) (by simp)
      have hb' := hBl.setCell (p := ⟨w.heap.size, k, none⟩) (Nat.le_refl _) (.int .i64 (x + y))
      have s1 : IntKind.i64.wrap (x + y) = x + y := by rw [IntKind.wrap_i64]; omega
      have hk16 : (k : Int) < 16 := by omega
      have hk0 : (0 : Int) ≤ (k : Int) := by omega
      have H0 : Hid _ := h0'.drew
      have H1 : Hid _ := h1'.drew
      have H2 : Hid _ := h2'.drew
      have HB : Hid _ := hb'.drew
      clear h0' h1' h2' hb' h0 h1 h2 hBl hx hy hz hts
      go_wp2
      go_region
      clear cx cy hfz
      go_wp2
      go_roundw
      case rel => exact ⟨k + 1, by omega, by go_num, H0.out, H1.out, H2.out, HB.out⟩
      case measure => simp [intOf]; omega
    · obtain rfl : k = 16 := by omega
      rw [List.take_of_length_le (by omega), List.drop_eq_nil_of_le (by omega), List.append_nil] at h0
      clear hfl h1
      go_wp2_with (refine wpList_load_row rfl 31 _ rfl w.heap.size rfl 31 (I64 zs).toArray (0, 0) _ h0 Tryd.underlying31 rfl (by simpa [hzl] using infoE) ?_)
      refine (specCarry zs _ hzl hzg).mono ?_
      rintro e w1 ⟨rfl, hb1⟩
      have h21 := h2.kept hb1
      have hB1 := hBl.trans (hb1.mono hBl.size)
      have hRl := red_len (val zs)
      obtain ⟨R, hR⟩ : ∃ R, R = red (val zs) := ⟨_, rfl⟩
      rw [← hR] at hRl ⊢
      have HR : Hid _ := hR
      have h22 := h21.row (I64 R)
      have hb2 := setRow_below hB1 (w.heap.size + 2) (I64 R).toArray (by omega)
      clear hR h0 h2 hBl hb1
      go_wp2_with (refine wpList_store_row rfl 31 _ _ rfl (w.heap.size + 2) (I64 R).toArray rfl rfl 31 _ h21 (by simpa [hRl] using infoE) (by simp [hRl]) (by simp [Value.oneCell']) ?_)
      exact bodyPost_ret (results_cell_row rfl _ _ (w.heap.size + 2) 31 (I64 R).toArray (0, 0) _ rfl h22 Tryd.underlying31 rfl (by simpa [hRl] using infoE)) rfl ⟨by rw [HR.out], hb2⟩
end Go.Proofs.YtihoaakbkffejaaDoor

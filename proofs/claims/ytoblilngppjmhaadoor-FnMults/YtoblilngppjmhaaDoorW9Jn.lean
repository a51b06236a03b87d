/-
  What is proved here: the contract of the program's method carried on limbs: what is too much is left in the last; contracts of the program's method below on limbs: which of two numbers is less.
-/
import Derived.Test.YtoblilngppjmhaaDoorW9Yj
import Derived.Test.YtoblilngppjmhaaDoorW9Arr
import Derived.Test.YtoblilngppjmhaaDoorW9Ua
namespace Go.Proofs.YtoblilngppjmhaaDoor
open Go.RowKit
set_option maxRecDepth 100000

theorem infoL : (Tryd.prog.info? 70).map (·.size) = some 16 := by kernel_rfl

set_option maxHeartbeats 2000000 in
theorem implCarried (l : List Int) (w : World) (hl : l.length = 16) (hc : Cb l) :
    Calls Tryd.prog 142 #[.agg (I64 l).toArray] w fun e w' => e = .returned (.agg (I64 (crd l)).toArray) ∧ Below w.heap.size w w' := by
  obtain ⟨A, hA⟩ : ∃ A, A = (I64 l).toArray := ⟨_, rfl⟩
  rw [← hA]
  obtain ⟨W, hW⟩ : ∃ W, W = (w.alloc (.cells A 70)).alloc (.cells (I64 Z16).toArray 70) := ⟨_, rfl⟩
  have h0 : Arr W w.heap.size 70 (I64 (cra l 0)) := by rw [hW, hA, cra_zero hl]; exact (Arr.new w (I64 l) _).alloc _
  have h1 : Arr W (w.heap.size + 1) 70 (I64 Z16) := by
    rw [hW]
    have := Arr.new (w.alloc (.cells A 70)) (I64 Z16) 70
    rw [World.size_alloc] at this
    exact this
  have hBl : Below w.heap.size w W := by rw [hW]; exact ((Below.refl _ _).alloc (Nat.le_refl _) _).alloc (by simp) _
  have HC : Hid _ := hc
  clear hA hc
  go_enter Tryd.func142, Tryd.ntmps142
  go_wp2
  go_loopw [4] (fun i wr => ∃ k : Nat, k ≤ 15 ∧ i = .int .i64 k ∧ Arr wr w.heap.size 70 (I64 (cra l k)) ∧ Arr wr (w.heap.size + 1) 70 (I64 Z16) ∧ Below w.heap.size w wr) (fun i _ => 15 - (intOf i).toNat)
  case atStart => exact ⟨0, by omega, rfl, hW ▸ h0, hW ▸ h1, hW ▸ hBl⟩
  case round =>
    clear h0 h1 hBl hW
    obtain ⟨k, hk, rfl, h0, h1, hBl⟩ := hrel
    have hcl := cra_len hl (show k < 16 by omega)
    by_cases hlt : k < 15
    · obtain ⟨hx, hy⟩ := cra_at hl hlt
      have hst := cra_step hl hlt
      have hnb := HC.out (k + 1) (by omega)
      rw [crx_next hl hlt] at hnb
      obtain ⟨x, hxx⟩ : ∃ x, x = crx l k := ⟨_, rfl⟩
      obtain ⟨y, hyy⟩ : ∃ y, y = l.getD (k + 1) 0 := ⟨_, rfl⟩
      rw [← hxx] at hx hst hnb
      rw [← hyy] at hy hst hnb
      have cx : wr.cell? ⟨w.heap.size, k, none⟩ = some (.int .i64 x) := by rw [h0.i64 k (by omega), hx]
      have cy : wr.cell? ⟨w.heap.size, k + 1, none⟩ = some (.int .i64 y) := by rw [h0.i64 (k + 1) (by omega), hy]
      have hf0 := h0.frozen (k + 1)
      have hk15 : (k : Int) < 15 := by omega
      have hk16 : (k : Int) < 16 := by omega
      have hk0 : (0 : Int) ≤ (k : Int) := by omega
      have s1 : IntKind.i64.wrap ((k : Int) + 1) = (k : Int) + 1 := by rw [IntKind.wrap_i64]; omega
      have s2 : ((k : Int) + 1).toNat = k + 1 := by omega
      have s3 : (k : Int) + 1 < 16 := by omega
      have s4 : (0 : Int) ≤ (k : Int) + 1 := by omega
      have s5 : IntKind.i64.wrap (y + x / 65536) = y + x / 65536 := by rw [IntKind.wrap_i64]; omega
      have s6 : bits .and .i64 x 65535 = x % 65536 := i64_and16 x
      have e1 := h0.set (k + 1) (.int .i64 (y + x / 65536))
      have e2 := e1.set k (.int .i64 (x % 65536))
      rw [hst] at e2
      have cx2 : (wr.setCell ⟨w.heap.size, k + 1, none⟩ (.int .i64 (y + x / 65536))).drew.cell? ⟨w.heap.size, k, none⟩ = some (.int .i64 x) := by
        show (wr.setCell ⟨w.heap.size, k + 1, none⟩ (.int .i64 (y + x / 65536))).cell? ⟨w.heap.size, k, none⟩ = some (.int .i64 x)
        rw [e1.cell k, List.getElem?_set_ne (by omega), ← h0.cell k]; exact cx
      have hf2 := e1.drew.frozen k
      have f2 := (h1.other ⟨w.heap.size, k + 1, none⟩ (.int .i64 (y + x / 65536)) (by simp)).other ⟨w.heap.size, k, none⟩ (.int .i64 (x % 65536)) (by simp)
      have fB := (hBl.setCell (p := ⟨w.heap.size, k + 1, none⟩) (Nat.le_refl _) (.int .i64 (y + x / 65536))).setCell (p := ⟨w.heap.size, k, none⟩) (Nat.le_refl _) (.int .i64 (x % 65536))
      have H0 : Hid _ := e2.drew
      have H1 : Hid _ := f2.drew
      have HB : Hid _ := fB.drew
      clear e1 e2 f2 fB h0 h1 hBl hx hy hst hxx hyy hcl
      go_wp2
      go_region
      clear cx cy hf0
      go_wp2
      go_roundw
      case rel => exact ⟨k + 1, by omega, by go_num, H0.out, H1.out, HB.out⟩
      case measure => simp [intOf]; omega
    · obtain rfl : k = 15 := by omega
      rw [cra_end hl] at h0
      have hRl := crd_len hl
      obtain ⟨R, hR⟩ : ∃ R, R = crd l := ⟨_, rfl⟩
      rw [← hR] at h0 hRl
      have HR : Hid _ := hR
      have h2 := h1.row (I64 R)
      have hb2 := setRow_below hBl (w.heap.size + 1) (I64 R).toArray (by omega)
      clear hR hcl HC
      go_wp2_with (first
        | (refine wpList_load_row rfl 70 _ rfl w.heap.size rfl 70 (I64 R).toArray (0, 0) _ h0 Tryd.underlying70 rfl (by simpa [hRl] using infoL) ?_)
        | (refine wpList_store_row rfl 70 _ _ rfl (w.heap.size + 1) (I64 R).toArray rfl rfl 70 _ h1 (by simpa [hRl] using infoL) (by simp [hRl]) (by simp [Value.oneCell']) ?_))
      exact bodyPost_ret (results_cell_row rfl _ _ (w.heap.size + 1) 70 (I64 R).toArray (0, 0) _ rfl h2 Tryd.underlying70 rfl (by simpa [hRl] using infoL)) rfl ⟨by rw [HR.out], hb2⟩
end Go.Proofs.YtoblilngppjmhaaDoor
namespace Go.Proofs.YtoblilngppjmhaaDoor
open Go.RowKit
set_option maxRecDepth 100000

set_option maxHeartbeats 1000000 in
theorem implBelow (a b : List Int) (w : World) (ha : a.length = 16) (hb : b.length = 16) (la : Lm a) (lb : Lm b) :
    Calls Tryd.prog 118 #[.agg (I64 a).toArray, .agg (I64 b).toArray] w fun e w' => e = .returned (.bool (decide (val a < val b))) ∧ Below w.heap.size w w' := by
  obtain ⟨A, hA⟩ : ∃ A, A = (I64 a).toArray := ⟨_, rfl⟩
  obtain ⟨B, hB⟩ : ∃ B, B = (I64 b).toArray := ⟨_, rfl⟩
  rw [← hA, ← hB]
  obtain ⟨W, hW⟩ : ∃ W, W = (w.alloc (.cells A 70)).alloc (.cells B 70) := ⟨_, rfl⟩
  have h0 : Arr W w.heap.size 70 (I64 a) := by rw [hW, hA]; exact (Arr.new w (I64 a) _).alloc _
  have h1 : Arr W (w.heap.size + 1) 70 (I64 b) := by
    rw [hW, hB]
    have := Arr.new (w.alloc (.cells A 70)) (I64 b) 70
    rw [World.size_alloc] at this
    exact this
  have hBl : Below w.heap.size w W := by rw [hW]; exact ((Below.refl _ _).alloc (Nat.le_refl _) _).alloc (by simp) _
  obtain ⟨r, hr⟩ : ∃ r, r = decide (val a < val b) := ⟨_, rfl⟩
  rw [← hr]
  have HR : Hid _ := hr
  have HA : Hid _ := hA
  have HB' : Hid _ := hB
  clear hr hA hB
  go_enter Tryd.func118, Tryd.ntmps118
  go_wp2
  rw [← hW]
  clear hW
  go_loopw [5] (fun i wr => ∃ (k : Nat) (j : Int), k ≤ 16 ∧ j = 15 - (k : Int) ∧ i = .int .i64 j ∧ a.drop (16 - k) = b.drop (16 - k) ∧ Arr wr w.heap.size 70 (I64 a) ∧ Arr wr (w.heap.size + 1) 70 (I64 b) ∧ Below w.heap.size w wr) (fun i _ => (intOf i + 1).toNat)
  case atStart => exact ⟨0, 15, by omega, by omega, rfl, by rw [List.drop_eq_nil_of_le (by omega), List.drop_eq_nil_of_le (by omega)], h0, h1, hBl⟩
  case round =>
    clear h0 h1 hBl
    obtain ⟨k, j, hk, hj, rfl, hd, h0, h1, hBl⟩ := hrel
    by_cases hlt : k < 16
    · obtain ⟨i, rfl⟩ : ∃ i : Nat, j = (i : Int) := ⟨15 - k, by omega⟩
      have hi : 16 - k = i + 1 := by omega
      rw [hi] at hd
      obtain ⟨x, hx⟩ : ∃ x, x = a.getD i 0 := ⟨_, rfl⟩
      obtain ⟨y, hy⟩ : ∃ y, y = b.getD i 0 := ⟨_, rfl⟩
      have cx : wr.cell? ⟨w.heap.size, i, none⟩ = some (.int .i64 x) := by rw [hx]; exact h0.i64 i (by omega)
      have cy : wr.cell? ⟨w.heap.size + 1, i, none⟩ = some (.int .i64 y) := by rw [hy]; exact h1.i64 i (by omega)
      have hi16 : (i : Int) < 16 := by omega
      have hi0 : (0 : Int) ≤ (i : Int) := by omega
      have s5 : wrap64 ((i : Int) - 1) = (i : Int) - 1 := by unfold wrap64; omega
      have HJ : Hid _ := hj
      by_cases hne : x = y
      · have hd' : a.drop i = b.drop i := by
          rw [List.drop_eq_getElem_cons (by omega), List.drop_eq_getElem_cons (l := b) (by omega), hd]
          have e1 : a[i] = x := by rw [hx]; simp [show i < a.length by omega]
          have e2 : b[i] = y := by rw [hy]; simp [show i < b.length by omega]
          rw [e1, e2, hne]
        have HD : Hid (a.drop (16 - (k + 1)) = b.drop (16 - (k + 1))) := by unfold Hid; rw [show 16 - (k + 1) = i by omega]; exact hd'
        subst hne
        clear hd hd' hx hy hj hi
        go_wp2
        go_quiet (fail)
        go_wp2
        go_roundw
        case rel => exact ⟨k + 1, (i : Int) - 1, by omega, by have := HJ.out; omega, by go_num, HD.out, h0.drewN _, h1.drewN _, bel_dN hBl _⟩
        case measure => simp [intOf]
      · have hv := lt_at ha hb la lb (i := i) (by omega) hd (by rw [← hx, ← hy]; exact hne)
        rw [← hx, ← hy] at hv
        have hrr : decide (x < y) = r := by rw [HR.out]; simp only [hv]
        have HRR : Hid _ := hrr
        have hne' : (x != y) = true := by simp [hne]
        clear hd hx hy hj hi hv hrr
        go_wp2
        go_quiet (fail)
        go_wp2
        go_quiet (fail)
        go_wp2
        go_ret
        refine ⟨?_, bel_dN (bel_dN hBl _) _⟩
        rw [← HRR.out]
        rfl
    · obtain rfl : k = 16 := by omega
      have hj0 : ¬ (0 : Int) ≤ j := by omega
      have hab : a = b := by simpa using hd
      have hrf : r = false := by rw [HR.out, hab]; simp
      clear hd hj
      go_wp2
      go_ret
      exact ⟨rfl, hBl⟩

end Go.Proofs.YtoblilngppjmhaaDoor

/-
  What is proved here: the contract of the program's method carried on limbs: what is too much is left in the last.
-/
import Derived.Test.YtpchdfdeomhakaaJa
import Derived.Test.YtpchdfdeomhakaaFnb
import Derived.Test.YtpchdfdeomhakaaGv
namespace Go.Proofs.Ytpchdfdeomhakaa
open Go.RowKit
set_option maxRecDepth 100000

theorem infoL : (Try.prog.info? 34).map (·.size) = some 16 := by kernel_rfl

set_option maxHeartbeats 2000000 in
theorem implCarried (l : List Int) (w : World) (hl : l.length = 16) (hc : Cb l) :
    Calls Try.prog 11 #[.agg (I64 l).toArray] w fun e w' => e = .returned (.agg (I64 (crd l)).toArray) ∧ Below w.heap.size w w' := by
  obtain ⟨A, hA⟩ : ∃ A, A = (I64 l).toArray := ⟨_, rfl⟩
  rw [← hA]
  obtain ⟨W, hW⟩ : ∃ W, W = (w.alloc (.cells A 34)).alloc (.cells (I64 Z16).toArray 34) := ⟨_, rfl⟩
  have h0 : Arr W w.heap.size 34 (I64 (cra l 0)) := by rw [hW, hA, cra_zero hl]; exact (Arr.new w (I64 l) _).alloc _
  have h1 : Arr W (w.heap.size + 1) 34 (I64 Z16) := by
    rw [hW]
    have := Arr.new (w.alloc (.cells A 34)) (I64 Z16) 34
    rw [World.size_alloc] at this
    exact this
  have hBl : Below w.heap.size w W := by rw [hW]; exact ((Below.refl _ _).alloc (Nat.le_refl _) _).alloc (by simp) _
  have HC : Hid _ := hc
  clear hA hc
  go_enter Try.func11, Try.ntmps11
  go_wp2
  go_loopw [4] (fun i wr => ∃ k : Nat, k ≤ 15 ∧ i = .int .i64 k ∧ Arr wr w.heap.size 34 (I64 (cra l k)) ∧ Arr wr (w.heap.size + 1) 34 (I64 Z16) ∧ Below w.heap.size w wr) (fun i _ => 15 - (intOf i).toNat)
  case atStart => exact ⟨0, by omega, rfl, hW ▸ h0, hW ▸ h1, hW ▸ hBl⟩
  case round =>
    clear h0 h1 hBl hW
    obtain ⟨k, hk, rfl, h0, h1, hBl⟩ := hrel
    have hcl := cra_len hl (show k < 16 by omega)
    by_cases hlt : k < 15
    · obtain ⟨hx, hy⟩ := cra_at hl hlt
      have hst := cra_step hl hlt
      have hnb := HC.out (k + 1) (by omega)
      rw [crx_next hl hlt] at hnb
      obtain ⟨x, hxx⟩ : ∃ x, x = crx l k := ⟨_, rfl⟩
      obtain ⟨y, hyy⟩ : ∃ y, y = l.getD (k + 1) 0 := ⟨_, rfl⟩
      rw [← hxx] at hx hst hnb
      rw [← hyy] at hy hst hnb
      have cx : wr.cell? ⟨w.heap.size, k, none⟩ = some (.int .i64 x) := by rw [h0.i64 k (by omega), hx]
      have cy : wr.cell? ⟨w.heap.size, k + 1, none⟩ = some (.int .i64 y) := by rw [h0.i64 (k + 1) (by omega), hy]
      have hf0 := h0.frozen (k + 1)
      have hk15 : (k : Int) < 15 := by omega
      have hk16 : (k : Int) < 16 := by omega
      have hk0 : (0 : Int) ≤ (k : Int) := by omega
      have s1 : IntKind.i64.wrap ((k : Int) + 1) = (k : Int) + 1 := by rw [IntKind.wrap_i64]; omega
      have s2 : ((k : Int) + 1).toNat = k + 1 := by omega
      have s3 : (k : Int) + 1 < 16 := by omega
      have s4 : (0 : Int) ≤ (k : Int) + 1 := by omega
      have s5 : IntKind.i64.wrap (y + x / 65536) = y + x / 65536 := by rw [IntKind.wrap_i64]; omega
      have s6 : bits .and .i64 x 65535 = x % 65536 := i64_and16 x
      have e1 := h0.set (k + 1) (.int .i64 (y + x / 65536))
      have e2 := e1.set k (.int .i64 (x % 65536))
      rw [hst] at e2
      have cx2 : (wr.setCell ⟨w.heap.size, k + 1, none⟩ (.int .i64 (y + x / 65536))).drew.cell? ⟨w.heap.size, k, none⟩ = some (.int .i64 x) := by
        show (wr.setCell ⟨w.heap.size, k + 1, none⟩ (.int .i64 (y + x / 65536))).cell? ⟨w.heap.size, k, none⟩ = some (.int .i64 x)
        rw [e1.cell k, List.getElem?_set_ne (by omega), ← h0.cell k]; exact cx
      have hf2 := e1.drew.frozen k
      have f2 := (h1.other ⟨w.heap.size, k + 1, none⟩ (.int .i64 (y + x / 65536)) (by simp)).other ⟨w.heap.size, k, none⟩ (.int .i64 (x % 65536)) (by simp)
      have fB := (hBl.setCell (p := ⟨w.heap.size, k + 1, none⟩) (Nat.le_refl _) (.int .i64 (y + x / 65536))).setCell (p := ⟨w.heap.size, k, none⟩) (Nat.le_refl _) (.int .i64 (x % 65536))
      have H0 : Hid _ := e2.drew
      have H1 : Hid _ := f2.drew
      have HB : Hid _ := fB.drew
      clear e1 e2 f2 fB h0 h1 hBl hx hy hst hxx hyy hcl
      go_wp2
      go_region
      clear cx cy hf0
      go_wp2
      go_roundw
      case rel => exact ⟨k + 1, by omega, by go_num, H0.out, H1.out, HB.out⟩
      case measure => simp [intOf]; omega
    · obtain rfl : k = 15 := by omega
      rw [cra_end hl] at h0
      have hRl := crd_len hl
      obtain ⟨R, hR⟩ : ∃ R, R = crd l := ⟨_, rfl⟩
      rw [← hR] at h0 hRl
      have HR : Hid _ := hR
      have h2 := h1.row (I64 R)
      have hb2 := setRow_below hBl (w.heap.size + 1) (I64 R).toArray (by omega)
      clear hR hcl HC
      go_wp2_with (first
        | (refine wpList_load_row rfl 34 _ rfl w.heap.size rfl 34 (I64 R).toArray (0, 0) _ h0 Try.underlying34 rfl (by simpa [hRl] using infoL) ?_)
        | (refine wpList_store_row rfl 34 _ _ rfl (w.heap.size + 1) (I64 R).toArray rfl rfl 34 _ h1 (by simpa [hRl] using infoL) (by simp [hRl]) (by simp [Value.oneCell']) ?_))
      exact bodyPost_ret (results_cell_row rfl _ _ (w.heap.size + 1) 34 (I64 R).toArray (0, 0) _ rfl h2 Try.underlying34 rfl (by simpa [hRl] using infoL)) rfl ⟨by rw [HR.out], hb2⟩
end Go.Proofs.Ytpchdfdeomhakaa

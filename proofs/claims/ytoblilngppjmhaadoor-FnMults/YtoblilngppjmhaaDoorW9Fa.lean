/-
  What is proved here: the contract of the specification's l4prime: the prime in sixteen parts; the contract of the specification's l4take: a difference, part by part; nothing of its own: the specification's l4prime, l4less and l4take are brought together.
-/
import Derived.Test.YtoblilngppjmhaaDoorW9Arr
namespace Go.Proofs.YtoblilngppjmhaaDoor
open Go.RowKit
set_option maxRecDepth 100000

set_option maxHeartbeats 1000000 in
theorem specPrime (w : World) :
    Calls Tryd.prog 128 #[] w fun e w' => e = .returned (.agg (I64 PL).toArray) ∧ Below w.heap.size w w' := by
  obtain ⟨W, hW⟩ : ∃ W, W = (w.alloc (.cells (I64 Z16).toArray 82)).alloc (.cells (I64 Z16).toArray 82) := ⟨_, rfl⟩
  have h0 : Arr W w.heap.size 82 (I64 Z16) := by rw [hW]; exact (Arr.new w (I64 Z16) _).alloc _
  have h1 : Arr W (w.heap.size + 1) 82 (I64 (List.replicate 0 65535 ++ List.replicate (16 - 0) 0)) := by
    rw [hW]
    have := Arr.new (w.alloc (.cells (I64 Z16).toArray 82)) (I64 Z16) 82
    rw [World.size_alloc] at this
    exact this
  have hB : Below w.heap.size w W := by rw [hW]; exact ((Below.refl _ _).alloc (Nat.le_refl _) _).alloc (by simp) _
  go_enter Tryd.func128, Tryd.ntmps128
  go_wp2
  go_loopw [2] (fun i wr => ∃ k : Nat, k ≤ 16 ∧ i = .int .i64 k ∧ Arr wr w.heap.size 82 (I64 Z16) ∧ Arr wr (w.heap.size + 1) 82 (I64 (List.replicate k 65535 ++ List.replicate (16 - k) 0)) ∧ Below w.heap.size w wr) (fun i _ => 16 - (intOf i).toNat)
  case atStart => exact ⟨0, by omega, rfl, hW ▸ h0, hW ▸ h1, hW ▸ hB⟩
  case round =>
    clear h0 h1 hB hW
    obtain ⟨k, hk, rfl, h0, h1, hb⟩ := hrel
    by_cases hlt : k < 16
    · have hk16 : (k : Int) < 16 := by omega
      obtain ⟨u, hu⟩ : ∃ u, wr.cell? ⟨w.heap.size + 1, k, none⟩ = some u := by
        rw [h1.cell k]
        exact ⟨_, List.getElem?_eq_getElem (by simp; omega)⟩
      have hfz := h1.frozen k
      have h1' := h1.set k (.int .i64 65535)
      have e : (I64 (List.replicate k 65535 ++ List.replicate (16 - k) 0)).set k (.int .i64 65535) = I64 (List.replicate (k + 1) 65535 ++ List.replicate (16 - (k + 1)) 0) := by
        rw [show 16 - k = (16 - (k + 1)) + 1 by omega, List.replicate_succ, List.replicate_succ' (n := k)]
        simp [List.set_append_right]
      rw [e] at h1'
      have h0' := h0.other ⟨w.heap.size + 1, k, none⟩ (.int .i64 65535) (by simp)
      have hb' := hb.setCell (p := ⟨w.heap.size + 1, k, none⟩) (by simp) (.int .i64 65535)
      have H1 : Hid _ := h1'
      have H0 : Hid _ := h0'
      have HB : Hid _ := hb'
      clear h1' h0' hb' h0 h1 hb e
      go_wp2
      go_roundw
      case rel => exact ⟨k + 1, by omega, by go_num, H0.out, H1.out, HB.out⟩
      case measure => simp [intOf]; omega
    · obtain rfl : k = 16 := by omega
      have h2 : Arr wr (w.heap.size + 1) 82 (I64 [65535, 65535, 65535, 65535, 65535, 65535, 65535, 65535, 65535, 65535, 65535, 65535, 65535, 65535, 65535, 65535]) := h1
      clear h1
      have c0 : wr.cell? ⟨w.heap.size + 1, 0, none⟩ = some (.int .i64 65535) := h2.cell 0
      have c15 : wr.cell? ⟨w.heap.size + 1, 15, none⟩ = some (.int .i64 65535) := h2.cell 15
      have hf := h2.frozen
      have h3 : Arr ((wr.setCell ⟨w.heap.size + 1, 0, none⟩ (.int .i64 65517)).setCell ⟨w.heap.size + 1, 15, none⟩ (.int .i64 32767)) (w.heap.size + 1) 82 (I64 PL) := (h2.set 0 (.int .i64 65517)).set 15 (.int .i64 32767)
      have h03 := (h0.other ⟨w.heap.size + 1, 0, none⟩ (.int .i64 65517) (by simp)).other ⟨w.heap.size + 1, 15, none⟩ (.int .i64 32767) (by simp)
      have hb3 := (hb.setCell (p := ⟨w.heap.size + 1, 0, none⟩) (by simp) (.int .i64 65517)).setCell (p := ⟨w.heap.size + 1, 15, none⟩) (by simp) (.int .i64 32767)
      have h04 := h03.row (I64 PL)
      have hb4 := setRow_below hb3 w.heap.size (I64 PL).toArray (Nat.le_refl _)
      have HS : Hid (Arr _ _ _ _) := h04
      have HB : Hid (Below _ _ _) := hb4
      clear h2 hb h04 hb4 h0 hb3
      go_wp2_with (first
        | (refine wpList_load_row rfl 82 _ rfl (w.heap.size + 1) rfl 82 (I64 PL).toArray (0, 0) _ h3 Tryd.underlying82 rfl infoE ?_)
        | (refine wpList_store_row rfl 82 _ _ rfl w.heap.size (I64 PL).toArray rfl rfl 82 (I64 Z16).toArray h03 (by kernel_rfl) (by kernel_rfl) (by kernel_rfl) ?_))
      exact bodyPost_ret (results_cell_row rfl _ _ w.heap.size 82 (I64 PL).toArray (0, 0) _ rfl HS.out Tryd.underlying82 rfl (by kernel_rfl)) rfl ⟨rfl, HB.out⟩

end Go.Proofs.YtoblilngppjmhaaDoor
namespace Go.Proofs.YtoblilngppjmhaaDoor
open Go.RowKit
set_option maxRecDepth 100000

set_option maxHeartbeats 2000000 in
theorem specTake (a b : List Int) (w : World) (ha : a.length = 16) (hb : b.length = 16) (la : Lm a) (lb : Lm b) :
    Calls Tryd.prog 127 #[.agg (I64 a).toArray, .agg (I64 b).toArray] w fun e w' => e = .returned (.agg (I64 (tk16 a b)).toArray) ∧ Below w.heap.size w w' := by
  obtain ⟨A, hA⟩ : ∃ A, A = (I64 a).toArray := ⟨_, rfl⟩
  obtain ⟨B, hB⟩ : ∃ B, B = (I64 b).toArray := ⟨_, rfl⟩
  rw [← hA, ← hB]
  obtain ⟨W, hW⟩ : ∃ W, W = ((w.alloc (.cells A 82)).alloc (.cells B 82)).alloc (.cells (I64 Z16).toArray 82) := ⟨_, rfl⟩
  have h0 : Arr W w.heap.size 82 (I64 a) := by rw [hW, hA]; exact ((Arr.new w (I64 a) _).alloc _).alloc _
  have h1 : Arr W (w.heap.size + 1) 82 (I64 b) := by
    rw [hW, hB]
    have := (Arr.new (w.alloc (.cells A 82)) (I64 b) 82).alloc (.cells (I64 Z16).toArray 82)
    rw [World.size_alloc] at this
    exact this
  have h2 : Arr W (w.heap.size + 2) 82 (I64 Z16) := by
    rw [hW]
    have := Arr.new ((w.alloc (.cells A 82)).alloc (.cells B 82)) (I64 Z16) 82
    rw [World.size_alloc, World.size_alloc] at this
    exact this
  have hBl : Below w.heap.size w W := by rw [hW]; exact (((Below.refl _ _).alloc (Nat.le_refl _) _).alloc (by simp) _).alloc (by simp; omega) _
  obtain ⟨zs, hzs⟩ : ∃ zs, zs = List.zipWith (fun x y => x - y) a b := ⟨_, rfl⟩
  have hzl : zs.length = 16 := by rw [hzs]; simp [ha, hb]
  have hcc : ∀ k, cpc (zs.take k) 0 = 0 ∨ cpc (zs.take k) 0 = -1 := by
    intro k
    rw [hzs, List.take_zipWith]
    exact cpc_sub (fun x hx => la x (List.mem_of_mem_take hx)) (fun x hx => lb x (List.mem_of_mem_take hx)) (.inl rfl)
  have htk : tk16 a b = cps zs 0 := by unfold tk16; rw [hzs]
  have hzg : ∀ k, k < 16 → zs.getD k 0 = a.getD k 0 - b.getD k 0 := by
    intro k hk
    rw [hzs]
    simp [List.getD, List.getElem?_zipWith, show k < a.length by omega, show k < b.length by omega]
  have HT : Hid _ := htk
  have HZG : Hid _ := hzg
  have HCC : Hid _ := hcc
  clear hzs htk hzg hcc hA hB
  go_enter Tryd.func127, Tryd.ntmps127
  go_wp2
  go_loopw [5, 6] (fun c i wr => ∃ (k : Nat) (d : Int), k ≤ 16 ∧ c = .int .i64 d ∧ d = -(cpc (zs.take k) 0) ∧ i = .int .i64 k ∧ Arr wr w.heap.size 82 (I64 (cps (zs.take k) 0 ++ a.drop k)) ∧ Arr wr (w.heap.size + 1) 82 (I64 b) ∧ Arr wr (w.heap.size + 2) 82 (I64 Z16) ∧ Below w.heap.size w wr) (fun _ i _ => 16 - (intOf i).toNat)
  case atStart => exact ⟨0, 0, by omega, rfl, by simp [cpc], rfl, by simpa [cps] using (hW ▸ h0), hW ▸ h1, hW ▸ h2, hW ▸ hBl⟩
  case round =>
    clear h0 h1 h2 hBl hW
    obtain ⟨k, d, hk, rfl, hd, rfl, h0, h1, h2, hBl⟩ := hrel
    have hfl : (cps (zs.take k) 0).length = k := by rw [cps_len]; simp; omega
    by_cases hlt : k < 16
    · obtain ⟨x, hx⟩ : ∃ x, x = a.getD k 0 := ⟨_, rfl⟩
      obtain ⟨y, hy⟩ : ∃ y, y = b.getD k 0 := ⟨_, rfl⟩
      have cx : wr.cell? ⟨w.heap.size, k, none⟩ = some (.int .i64 x) := by
        rw [h0.i64 k (by rw [len_app hfl (by omega)]; omega), get_app hfl, hx]
      have cy : wr.cell? ⟨w.heap.size + 1, k, none⟩ = some (.int .i64 y) := by rw [hy]; exact h1.i64 k (by omega)
      have bx := gD_lm la k
      have by' := gD_lm lb k
      rw [← hx] at bx
      rw [← hy] at by'
      have hc := HCC.out k
      have hz := HZG.out k hlt
      rw [← hx, ← hy] at hz
      have hts := take_app zs k (by omega)
      rw [hz] at hts
      have hs1 : cps (zs.take (k + 1)) 0 = cps (zs.take k) 0 ++ [(x - y + cpc (zs.take k) 0) % 65536] := by rw [hts, cps_snoc]
      have hs2 : cpc (zs.take (k + 1)) 0 = (x - y + cpc (zs.take k) 0) / 65536 := by rw [hts, cpc_snoc]
      have hk16 : (k : Int) < 16 := by omega
      have hfz := h0.frozen k
      have hset := fun v => h0.set k (.int .i64 v)
      have h1s := fun v => h1.other ⟨w.heap.size, k, none⟩ (.int .i64 v) (by simp)
      have h2s := fun v => h2.other ⟨w.heap.size, k, none⟩ (.int .i64 v) (by simp)
      have hbs := fun v => hBl.setCell (p := ⟨w.heap.size, k, none⟩) (Nat.le_refl _) (.int .i64 v)
      simp only [set_app hfl (show k < a.length by omega)] at hset
      have w1 : IntKind.i64.wrap (x - y) = x - y := by rw [IntKind.wrap_i64]; omega
      obtain ⟨z, hzz⟩ : ∃ z, z = x - y - d := ⟨_, rfl⟩
      have w2 : IntKind.i64.wrap (x - y - d) = z := by rw [IntKind.wrap_i64, hzz]; omega
      have HS1 : Hid _ := hs1
      have HS2 : Hid _ := hs2
      have HD : Hid _ := hd
      have HZZ : Hid _ := hzz
      have HSET : Hid _ := hset
      have H1S : Hid _ := h1s
      have H2S : Hid _ := h2s
      have HBS : Hid _ := hbs
      have hzb : -65536 ≤ z ∧ z < 65536 := by omega
      clear hs1 hs2 hd hzz hset h1s h2s hbs hts hz hx hy h0 h1 h2 hBl hc
      go_wp2
      go_quiet (fail)
      rename_i nq
      by_cases hneg : z < 0
      · have w3 : IntKind.i64.wrap (z + 65536) = z + 65536 := by rw [IntKind.wrap_i64]; omega
        go_wp2
        go_roundw
        case rel =>
          refine ⟨k + 1, 1, by omega, rfl, ?_, by go_num, ?_, (H1S.out _).drewN _, (H2S.out _).drewN _, bel_dN (HBS.out _) _⟩
          · have e := HS2.out; have e1 := HD.out; have e2 := HZZ.out; omega
          · have e := HS1.out; have e1 := HD.out; have e2 := HZZ.out
            rw [e, show (x - y + cpc (zs.take k) 0) % 65536 = z + 65536 by omega]
            exact (HSET.out _).drewN _
        case measure => simp [intOf]; omega
      · go_wp2
        go_roundw
        case rel =>
          refine ⟨k + 1, 0, by omega, rfl, ?_, by go_num, ?_, (H1S.out _).drewN _, (H2S.out _).drewN _, bel_dN (HBS.out _) _⟩
          · have e := HS2.out; have e1 := HD.out; have e2 := HZZ.out; omega
          · have e := HS1.out; have e1 := HD.out; have e2 := HZZ.out
            rw [e, show (x - y + cpc (zs.take k) 0) % 65536 = z by omega]
            exact (HSET.out _).drewN _
        case measure => simp [intOf]; omega
    · obtain rfl : k = 16 := by omega
      have e : cps (zs.take 16) 0 ++ a.drop 16 = tk16 a b := by
        rw [HT.out, List.take_of_length_le (by omega), List.drop_eq_nil_of_le (by omega)]; simp
      rw [e] at h0
      have hl : (tk16 a b).length = 16 := by rw [HT.out, cps_len, hzl]
      obtain ⟨y, hy⟩ : ∃ y, y = tk16 a b := ⟨_, rfl⟩
      rw [← hy] at h0 hl
      have HY : Hid _ := hy
      have h2' := h2.row (I64 y)
      have hb' := setRow_below hBl (w.heap.size + 2) (I64 y).toArray (by omega)
      clear e hy hd hfl
      go_wp2_with (first
        | (refine wpList_load_row rfl 82 _ rfl w.heap.size rfl 82 (I64 y).toArray (0, 0) _ h0 Tryd.underlying82 rfl (by simpa [hl] using infoE) ?_)
        | (refine wpList_store_row rfl 82 _ _ rfl (w.heap.size + 2) (I64 y).toArray rfl rfl 82 _ h2 (by simpa [hl] using infoE) (by simp [hl]) (by simp [Value.oneCell']) ?_))
      exact bodyPost_ret (results_cell_row rfl _ _ (w.heap.size + 2) 82 (I64 y).toArray (0, 0) _ rfl h2' Tryd.underlying82 rfl (by simpa [hl] using infoE)) rfl ⟨by rw [HY.out], hb'⟩
end Go.Proofs.YtoblilngppjmhaaDoor
namespace Go.Proofs.YtoblilngppjmhaaDoor
open Go.RowKit
set_option maxRecDepth 100000

end Go.Proofs.YtoblilngppjmhaaDoor

/-
  What is proved here: the contract of the specification's l4read: sixteen parts out of 32 bytes; the contract of the specification's l4bytes: 32 bytes out of sixteen parts.
-/
import Derived.Test.YtoblilngppjmhaaDoorZFn
import Derived.Test.YtoblilngppjmhaaDoorZKit
import Derived.Test.YtoblilngppjmhaaDoorZApp
import Derived.Deep.RegionHeld3
import Derived.Deep.AppendLies
namespace Go.Proofs.YtoblilngppjmhaaDoor
open Go.RowKit
set_option maxRecDepth 100000

/-- The parts that the bytes make. -/
def rdL (bs : List Int) : List Int := (List.range 16).map fun i => bs.getD (2 * i) 0 + 256 * bs.getD (2 * i + 1) 0
theorem rdL_len (bs : List Int) : (rdL bs).length = 16 := by simp [rdL]
theorem rdL_get (bs : List Int) (k : Nat) (h : k < 16) : (rdL bs).getD k 0 = bs.getD (2 * k) 0 + 256 * bs.getD (2 * k + 1) 0 := by
  unfold rdL
  rw [List.getD, List.getElem?_map, List.getElem?_range h]
  rfl
theorem gD_u8 {bs : List Int} (h : ∀ x ∈ bs, 0 ≤ x ∧ x < 256) (j : Nat) : 0 ≤ bs.getD j 0 ∧ bs.getD j 0 < 256 := by
  by_cases hj : j < bs.length
  · rw [List.getD, List.getElem?_eq_getElem hj]
    exact h _ (List.getElem_mem hj)
  · rw [List.getD, List.getElem?_eq_none (by omega)]
    simp
theorem rdL_lm {bs : List Int} (h : ∀ x ∈ bs, 0 ≤ x ∧ x < 256) : Lm (rdL bs) := by
  refine lm_of (rdL_len bs) fun j hj => ?_
  rw [rdL_get bs j hj]
  have h1 := gD_u8 h (2 * j)
  have h2 := gD_u8 h (2 * j + 1)
  omega

set_option maxHeartbeats 2000000 in
theorem specRead16 (a : Option Addr) (c : Nat) (bs : List Int) (w : World) (hx : Bs w a 32 c bs) :
    Calls Tryd.prog 131 #[.slice a 32 c] w fun e w' => e = .returned (.agg (I64 (rdL bs)).toArray) ∧ Below w.heap.size w w' := by
  obtain ⟨_, hl, hc, hr, hx⟩ := hx
  rcases hx with hx | ⟨b, o, rfl, hbs, hcell⟩
  · omega
  have hRl := rdL_len bs
  have hRg := rdL_get bs
  have hr' := gD_u8 hr
  obtain ⟨R, hR⟩ : ∃ R, R = rdL bs := ⟨_, rfl⟩
  rw [← hR] at hRl hRg ⊢
  have HRG : Hid _ := hRg
  have HRR : Hid _ := hr'
  clear hR hRg hr hr'
  obtain ⟨W, hW⟩ : ∃ W, W = (w.alloc (.cells (I64 Z16).toArray 82)).alloc (.cells (I64 Z16).toArray 82) := ⟨_, rfl⟩
  have g1 : Arr W w.heap.size 82 (I64 Z16) := by rw [hW]; exact (Arr.new w (I64 Z16) _).alloc _
  have g2 : Arr W (w.heap.size + 1) 82 (I64 (R.take 0 ++ Z16.drop 0)) := by
    rw [hW]
    have := Arr.new (w.alloc (.cells (I64 Z16).toArray 82)) (I64 Z16) 82
    rw [World.size_alloc] at this
    exact this
  have gB : Below w.heap.size w W := by rw [hW]; exact ((Below.refl _ _).alloc (Nat.le_refl _) _).alloc (by simp) _
  go_enter Tryd.func131, Tryd.ntmps131
  go_wp2
  go_loopw [4] (fun i wr => ∃ k : Nat, k ≤ 16 ∧ i = .int .i64 k ∧ Arr wr w.heap.size 82 (I64 Z16) ∧ Arr wr (w.heap.size + 1) 82 (I64 (R.take k ++ Z16.drop k)) ∧ Below w.heap.size w wr) (fun i _ => 16 - (intOf i).toNat)
  case atStart => exact ⟨0, by omega, rfl, hW ▸ g1, hW ▸ g2, hW ▸ gB⟩
  case round =>
    clear g1 g2 gB hW
    obtain ⟨k, hk, rfl, g1, g2, gB⟩ := hrel
    have hfl : (R.take k).length = k := by simp; omega
    by_cases hlt : k < 16
    · obtain ⟨x, hx⟩ : ∃ x, x = bs.getD (2 * k) 0 := ⟨_, rfl⟩
      obtain ⟨y, hy⟩ : ∃ y, y = bs.getD (2 * k + 1) 0 := ⟨_, rfl⟩
      have hxb := HRR.out (2 * k)
      have hyb := HRR.out (2 * k + 1)
      rw [← hx] at hxb
      rw [← hy] at hyb
      have hck : wr.cell? ⟨b, o + 2 * k, none⟩ = some (.int .u8 x) := by rw [hx]; exact (gB.cell (p := ⟨b, o + 2 * k, none⟩) hbs).trans (hcell (2 * k) (by omega))
      have hcy : wr.cell? ⟨b, o + (2 * k + 1), none⟩ = some (.int .u8 y) := by rw [hy]; exact (gB.cell (p := ⟨b, o + (2 * k + 1), none⟩) hbs).trans (hcell (2 * k + 1) (by omega))
      obtain ⟨u, hu⟩ : ∃ u, wr.cell? ⟨w.heap.size + 1, k, none⟩ = some u := by
        rw [g2.cell k]
        exact ⟨_, List.getElem?_eq_getElem (by simp [hRl]; omega)⟩
      have hfz := g2.frozen k
      have hts := take_app R k (by omega)
      rw [HRG.out k hlt, ← hx, ← hy] at hts
      have g2' := g2.set k (.int .i64 (x + 256 * y))
      rw [set_app hfl (show k < Z16.length from hlt), ← hts] at g2'
      have g1' := g1.other ⟨w.heap.size + 1, k, none⟩ (.int .i64 (x + 256 * y)) (by simp)
      have gB' := gB.setCell (p := ⟨w.heap.size + 1, k, none⟩) (by simp) (.int .i64 (x + 256 * y))
      have hk16 : (k : Int) < 16 := by omega
      have hk0 : (0 : Int) ≤ (k : Int) := by omega
      have s1 : IntKind.i64.wrap (2 * (k : Int)) = 2 * (k : Int) := by rw [IntKind.wrap_i64]; omega
      have s2 : (2 * (k : Int)).toNat = 2 * k := by omega
      have s3 : 2 * (k : Int) < 32 := by omega
      have s4 : (0 : Int) ≤ 2 * (k : Int) := by omega
      have s5 : IntKind.i64.wrap (2 * (k : Int) + 1) = 2 * (k : Int) + 1 := by rw [IntKind.wrap_i64]; omega
      have s6 : (2 * (k : Int) + 1).toNat = 2 * k + 1 := by omega
      have s7 : 2 * (k : Int) + 1 < 32 := by omega
      have s8 : (0 : Int) ≤ 2 * (k : Int) + 1 := by omega
      have s9 : IntKind.i64.wrap x = x := by rw [IntKind.wrap_i64]; omega
      have s10 : IntKind.i64.wrap y = y := by rw [IntKind.wrap_i64]; omega
      have s11 : IntKind.i64.wrap (256 * y) = 256 * y := by rw [IntKind.wrap_i64]; omega
      have s12 : IntKind.i64.wrap (x + 256 * y) = x + 256 * y := by rw [IntKind.wrap_i64]; omega
      have H1 : Hid _ := g1'.drew
      have H2 : Hid _ := g2'.drew
      have HB : Hid _ := gB'.drew
      clear g1' g2' gB' g1 g2 gB hx hy hts hcell
      go_wp2
      go_region
      clear hck hcy hu hfz
      go_wp2
      go_roundw
      case rel => exact ⟨k + 1, by omega, by go_num, H1.out, H2.out, HB.out⟩
      case measure => simp [intOf]; omega
    · obtain rfl : k = 16 := by omega
      rw [List.take_of_length_le (by omega), show Z16.drop 16 = [] from rfl, List.append_nil] at g2
      have g1' := g1.row (I64 R)
      have gB' := setRow_below gB w.heap.size (I64 R).toArray (Nat.le_refl _)
      clear hfl hcell
      go_wp2_with (first
        | (refine wpList_load_row rfl 82 _ rfl (w.heap.size + 1) rfl 82 (I64 R).toArray (0, 0) _ g2 Tryd.underlying82 rfl (by simpa [hRl] using infoE) ?_)
        | (refine wpList_store_row rfl 82 _ _ rfl w.heap.size (I64 R).toArray rfl rfl 82 _ g1 (by simpa [hRl] using infoE) (by simp [hRl]) (by simp [Value.oneCell']) ?_))
      exact bodyPost_ret (results_cell_row rfl _ _ w.heap.size 82 (I64 R).toArray (0, 0) _ rfl g1' Tryd.underlying82 rfl (by simpa [hRl] using infoE)) rfl ⟨rfl, gB'⟩

end Go.Proofs.YtoblilngppjmhaaDoor
namespace Go.Proofs.YtoblilngppjmhaaDoor
open Go.RowKit
set_option maxRecDepth 100000

/-- The bytes of parts: two of each, the low one first. -/
def btL (l : List Int) : List Int := l.flatMap (fun x => [x % 256, x / 256])
theorem btL_len (l : List Int) : (btL l).length = 2 * l.length := by
  induction l with
  | nil => rfl
  | cons x xs ih => simp only [btL, List.flatMap_cons, List.length_append, List.length_cons, List.length_nil] at ih ⊢; omega
theorem btL_snoc (l : List Int) (k : Nat) (h : k < l.length) : btL (l.take (k + 1)) = btL (l.take k) ++ [l.getD k 0 % 256, l.getD k 0 / 256] := by
  rw [take_app l k h]; simp [btL]
theorem btL_byte {l : List Int} (h : Lm l) : ∀ y ∈ btL l, 0 ≤ y ∧ y < 256 := by
  intro y hy
  simp only [btL, List.mem_flatMap, List.mem_cons, List.not_mem_nil, or_false] at hy
  obtain ⟨x, hx, hy⟩ := hy
  have := h x hx
  rcases hy with rfl | rfl <;> omega

set_option maxHeartbeats 2000000 in
theorem specBytes16 (l : List Int) (w : World) (hl : l.length = 16) (hm : Lm l) :
    Calls Tryd.prog 124 #[.agg (I64 l).toArray] w fun e w' => ∃ v, e = .returned v ∧ w'.ownsRow w.heap.size 5 1 v 32 (U8 (btL l)) ∧ Below w.heap.size w w' := by
  obtain ⟨i0, hi, hz0, hz1, hz2⟩ := info_parts Tryd.info5
  obtain ⟨A, hA⟩ : ∃ A, A = (I64 l).toArray := ⟨_, rfl⟩
  rw [← hA]
  obtain ⟨W, hW⟩ : ∃ W, W = w.alloc (.cells A 82) := ⟨_, rfl⟩
  have g0 : Arr W w.heap.size 82 (I64 l) := by rw [hW, hA]; exact Arr.new w (I64 l) _
  have gB : Below w.heap.size w W := by rw [hW]; exact (Below.refl _ _).alloc (Nat.le_refl _) _
  have gs : w.heap.size + 1 ≤ W.heap.size := by rw [hW]; simp
  clear hA
  go_enter Tryd.func124, Tryd.ntmps124
  go_wp2
  go_loopw [3, 4] (fun v i wr => ∃ k : Nat, k ≤ 16 ∧ i = .int .i64 k ∧ wr.ownsRow (w.heap.size + 1) 5 1 v (2 * k) (U8 (btL (l.take k))) ∧ Arr wr w.heap.size 82 (I64 l) ∧ Below w.heap.size w wr ∧ w.heap.size + 1 ≤ wr.heap.size) (fun _ i _ => 16 - (intOf i).toNat)
  case atStart => exact ⟨0, by omega, rfl, by simpa [btL] using World.ownsRow_nil _ _ _ _, hW ▸ g0, hW ▸ gB, by simp⟩
  case round =>
    clear g0 gB gs hW
    obtain ⟨k, hk, rfl, hown, g0, gB, gs⟩ := hrel
    by_cases hlt : k < 16
    · obtain ⟨x, hx⟩ : ∃ x, x = l.getD k 0 := ⟨_, rfl⟩
      have hck := g0.i64 k (by omega)
      rw [← hx] at hck
      have hxb := gD_lm hm k
      rw [← hx] at hxb
      obtain ⟨hx0, hx1⟩ := hxb
      have hnx := btL_snoc l k (by omega)
      rw [← hx] at hnx
      have HN : Hid _ := hnx
      clear hx hnx
      have s1 : IntKind.u8.wrap x = x % 256 := by rw [IntKind.wrap_u8]
      have s2 : IntKind.u8.wrap (x / 256) = x / 256 := by rw [IntKind.wrap_u8]; omega
      have hk16 : (k : Int) < 16 := by omega
      have hk0 : (0 : Int) ≤ (k : Int) := by omega
      go_wp2
      go_region_held3 (fun W => W.cell? ⟨w.heap.size, k, none⟩ = some (.int .i64 x)) (first | exact hS9 | go_keep)
        ((refine step_append_lies _ (by rfl) _ _ _ (by rfl) (w.heap.size + 1) 5 i0 _ 1 1 Tryd.underlying22 hi hz0 hz1 hz2 rfl (by omega) u3 (2 * k) (U8 (btL (l.take k))) (by rfl) ((hown.alloc _).drew)
            ⟨wr.heap.size, 0, none⟩ 2 2 (U8 [x % 256, x / 256]) (by rfl) (by rfl) (World.news_of_block (cs := #[.int .u8 (x % 256), .int .u8 (x / 256)]) (t := 5) (fr := (0, 0)) (heap_alloc_new wr _)) (by simp [Value.oneCell'])
            (by omega) (by unfold maxLen; omega) (by omega) (by simp; omega) (wr.heap.size + 1) (by simp) ?_; intro gg cap w1 hown1 hgrow hat hltg; have hbA : Below (w.heap.size + 1) wr w1 := (((Below.refl _ _).alloc (by omega) _).drew).grown hgrow (by simp; omega) (fun j hj => (hown.lt j hj).1); have hS9 : w1.cell? ⟨w.heap.size, k, none⟩ = some (.int .i64 x) := (hbA.cell (p := ⟨w.heap.size, k, none⟩) (by show w.heap.size < w.heap.size + 1; omega)).trans hck))
      all_goals
        have g0' := g0.below hbA (by omega)
        have gB' := gB.trans (hbA.mono (by omega))
        have gs' := Nat.le_trans gs hbA.size
        have HR : Hid (w1.ownsRow (w.heap.size + 1) 5 1 (.slice (some ⟨gg, 0, none⟩) (2 * k + 2) cap) (2 * (k + 1)) (U8 (btL (l.take (k + 1))))) := by
          unfold Hid
          rw [HN.out]
          have e2 : 2 * (k + 1) = 2 * k + 2 := by omega
          rw [e2]
          simpa using hown1
        clear hown1 hgrow hown hbA hat hltg g0 gB gs hck hS9
        go_wp2
        exact ⟨⟨k + 1, by omega, by go_num, HR.out, g0', gB', gs'⟩, by simp [intOf]; omega⟩
    · obtain rfl : k = 16 := by omega
      rw [List.take_of_length_le (by omega)] at hown
      have HO : Hid _ := own_base hown (show w.heap.size ≤ w.heap.size + 1 by omega)
      clear hown g0
      go_wp2
      go_ret
      exact ⟨_, rfl, HO.out, gB⟩

end Go.Proofs.YtoblilngppjmhaaDoor

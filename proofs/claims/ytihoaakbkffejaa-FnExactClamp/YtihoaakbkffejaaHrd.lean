/-
  What is proved here: the contract of the specification's l4read: sixteen parts out of 32 bytes.
-/
import Derived.Test.YtihoaakbkffejaaFnb
import Derived.Test.YtihoaakbkffejaaBas
namespace Go.Proofs.Ytihoaakbkffejaa
open Go.RowKit
set_option maxRecDepth 100000

/-- The parts that the bytes make. -/
def rdL (bs : List Int) : List Int := (List.range 16).map fun i => bs.getD (2 * i) 0 + 256 * bs.getD (2 * i + 1) 0
theorem rdL_len (bs : List Int) : (rdL bs).length = 16 := by simp [rdL]
theorem rdL_get (bs : List Int) (k : Nat) (h : k < 16) : (rdL bs).getD k 0 = bs.getD (2 * k) 0 + 256 * bs.getD (2 * k + 1) 0 := by
  unfold rdL
  rw [List.getD, List.getElem?_map, List.getElem?_range h]
  rfl
theorem gD_u8 {bs : List Int} (h : ∀ x ∈ bs, 0 ≤ x ∧ x < 256) (j : Nat) : 0 ≤ bs.getD j 0 ∧ bs.getD j 0 < 256 := by
  by_cases hj : j < bs.length
  · rw [List.getD, List.getElem?_eq_getElem hj]
    exact h _ (List.getElem_mem hj)
  · rw [List.getD, List.getElem?_eq_none (by omega)]
    simp
theorem rdL_lm {bs : List Int} (h : ∀ x ∈ bs, 0 ≤ x ∧ x < 256) : Lm (rdL bs) := by
  refine lm_of (rdL_len bs) fun j hj => ?_
  rw [rdL_get bs j hj]
  have h1 := gD_u8 h (2 * j)
  have h2 := gD_u8 h (2 * j + 1)
  omega

set_option maxHeartbeats 2000000 in
theorem specRead16 (a : Option Addr) (c : Nat) (bs : List Int) (w : World) (hx : Bs w a 32 c bs) :
    Calls Try.prog 13 #[.slice a 32 c] w fun e w' => e = .returned (.agg (I64 (rdL bs)).toArray) ∧ Below w.heap.size w w' := by
  obtain ⟨_, hl, hc, hr, hx⟩ := hx
  rcases hx with hx | ⟨b, o, rfl, hbs, hcell⟩
  · omega
  have hRl := rdL_len bs
  have hRg := rdL_get bs
  have hr' := gD_u8 hr
  obtain ⟨R, hR⟩ : ∃ R, R = rdL bs := ⟨_, rfl⟩
  rw [← hR] at hRl hRg ⊢
  have HRG : Hid _ := hRg
  have HRR : Hid _ := hr'
  clear hR hRg hr hr'
  obtain ⟨W, hW⟩ : ∃ W, W = (w.alloc (.cells (I64 Z16).toArray 31)).alloc (.cells (I64 Z16).toArray 31) := ⟨_, rfl⟩
  have g1 : Arr W w.heap.size 31 (I64 Z16) := by rw [hW]; exact (Arr.new w (I64 Z16) _).alloc _
  have g2 : Arr W (w.heap.size + 1) 31 (I64 (R.take 0 ++ Z16.drop 0)) := by
    rw [hW]
    have := Arr.new (w.alloc (.cells (I64 Z16).toArray 31)) (I64 Z16) 31
    rw [World.size_alloc] at this
    exact this
  have gB : Below w.heap.size w W := by rw [hW]; exact ((Below.refl _ _).alloc (Nat.le_refl _) _).alloc (by simp) _
  go_enter Try.func13, Try.ntmps13
  go_wp2
  go_loopw [4] (fun i wr => ∃ k : Nat, k ≤ 16 ∧ i = .int .i64 k ∧ Arr wr w.heap.size 31 (I64 Z16) ∧ Arr wr (w.heap.size + 1) 31 (I64 (R.take k ++ Z16.drop k)) ∧ Below w.heap.size w wr) (fun i _ => 16 - (intOf i).toNat)
  case atStart => exact ⟨0, by omega, rfl, hW ▸ g1, hW ▸ g2, hW ▸ gB⟩
  case round =>
    clear g1 g2 gB hW
    obtain ⟨k, hk, rfl, g1, g2, gB⟩ := hrel
    have hfl : (R.take k).length = k := by simp; omega
    by_cases hlt : k < 16
    · obtain ⟨x, hx⟩ : ∃ x, x = bs.getD (2 * k) 0 := ⟨_, rfl⟩
      obtain ⟨y, hy⟩ : ∃ y, y = bs.getD (2 * k + 1) 0 := ⟨_, rfl⟩
      have hxb := HRR.out (2 * k)
      have hyb := HRR.out (2 * k + 1)
      rw [← hx] at hxb
      rw [← hy] at hyb
      have hck : wr.cell? ⟨b, o + 2 * k, none⟩ = some (.int .u8 x) := by rw [hx]; exact (gB.cell (p := ⟨b, o + 2 * k, none⟩) hbs).trans (hcell (2 * k) (by omega))
      have hcy : wr.cell? ⟨b, o + (2 * k + 1), none⟩ = some (.int .u8 y) := by rw [hy]; exact (gB.cell (p := ⟨b, o + (2 * k + 1), none⟩) hbs).trans (hcell (2 * k + 1) (by omega))
      obtain ⟨u, hu⟩ : ∃ u, wr.cell? ⟨w.heap.size + 1, k, none⟩ = some u := by
        rw [g2.cell k]
        exact ⟨_, List.getElem?_eq_getElem (by simp [hRl]; omega)⟩
      have hfz := g2.frozen k
      have hts := take_app R k (by omega)
      rw [HRG.out k hlt, ← hx, ← hy] at hts
      have g2' := g2.set k (.int .i64 (x + 256 * y))
      rw [set_app hfl (show k < Z16.length from hlt), ← hts] at g2'
      have g1' := g1.other ⟨w.heap.size + 1, k, none⟩ (.int .i64 (x + 256 * y)) (by simp)
      have gB' := gB.setCell (p := ⟨w.heap.size + 1, k, none⟩) (by simp) (.int .i64 (x + 256 * y))
      have hk16 : (k : Int) < 16 := by omega
      have hk0 : (0 : Int) ≤ (k : Int) := by omega
      have s1 : IntKind.i64.wrap (2 * (k : Int)) = 2 * (k : Int) := by rw [IntKind.wrap_i64]; omega
      have s2 : (2 * (k : Int)).toNat = 2 * k := by omega
      have s3 : 2 * (k : Int) < 32 := by omega
      have s4 : (0 : Int) ≤ 2 * (k : Int) := by omega
      have s5 : IntKind.i64.wrap (2 * (k : Int) + 1) = 2 * (k : Int) + 1 := by rw [IntKind.wrap_i64]; omega
      have s6 : (2 * (k : Int) + 1).toNat = 2 * k + 1 := by omega
      have s7 : 2 * (k : Int) + 1 < 32 := by omega
      have s8 : (0 : Int) ≤ 2 * (k : Int) + 1 := by omega
      have s9 : IntKind.i64.wrap x = x := by rw [IntKind.wrap_i64]; omega
      have s10 : IntKind.i64.wrap y = y := by rw [IntKind.wrap_i64]; omega
      have s11 : IntKind.i64.wrap (256 * y) = 256 * y := by rw [IntKind.wrap_i64]; omega
      have s12 : IntKind.i64.wrap (x + 256 * y) = x + 256 * y := by rw [IntKind.wrap_i64]; omega
      have H1 : Hid _ := g1'.drew
      have H2 : Hid _ := g2'.drew
      have HB : Hid _ := gB'.drew
      clear g1' g2' gB' g1 g2 gB hx hy hts hcell
      go_wp2
      go_region
      clear hck hcy hu hfz
      go_wp2
      go_roundw
      case rel => exact ⟨k + 1, by omega, by go_num, H1.out, H2.out, HB.out⟩
      case measure => simp [intOf]; omega
    · obtain rfl : k = 16 := by omega
      rw [List.take_of_length_le (by omega), show Z16.drop 16 = [] from rfl, List.append_nil] at g2
      have g1' := g1.row (I64 R)
      have gB' := setRow_below gB w.heap.size (I64 R).toArray (Nat.le_refl _)
      clear hfl hcell
      go_wp2_with (first
        | (refine wpList_load_row rfl 31 _ rfl (w.heap.size + 1) rfl 31 (I64 R).toArray (0, 0) _ g2 Try.underlying31 rfl (by simpa [hRl] using infoE) ?_)
        | (refine wpList_store_row rfl 31 _ _ rfl w.heap.size (I64 R).toArray rfl rfl 31 _ g1 (by simpa [hRl] using infoE) (by simp [hRl]) (by simp [Value.oneCell']) ?_))
      exact bodyPost_ret (results_cell_row rfl _ _ w.heap.size 31 (I64 R).toArray (0, 0) _ rfl g1' Try.underlying31 rfl (by simpa [hRl] using infoE)) rfl ⟨rfl, gB'⟩

end Go.Proofs.Ytihoaakbkffejaa

/-
  What is proved here: a multiplier is laid into a new cell; plain facts on memory; the contract of the specification's l4read: sixteen parts out of 32 bytes; a law for the walk on 'append' where the first slice is a row of bytes that the call itself owns and the second is any slice of bytes; the two together hold at most 2^40 bytes; the contract of the specification's l4bytes: 32 bytes out of sixteen parts; the contracts of the program's limbsRead and bytes: limbs out of 32 bytes, and back; whether bytes are those of a multiplier, and which, as plain functions; contracts of the specification's l5in and l5out: a multiplier out of a slice of ints and back into a new one; what an answer is.
-/
import Derived.Test.YtoblilngppjmhaaDoorW9Oj
import Derived.Test.YtoblilngppjmhaaDoorW9Arr
import Derived.Laws.AppendOwnNone
import Derived.Deep.RegionHeld3
import Derived.Deep.AppendLies
import Derived.Test.YtoblilngppjmhaaDoorW9Jn
import Derived.Test.YtoblilngppjmhaaDoorW9Ua
import Derived.Test.YtoblilngppjmhaaDoorW9Jc
import Derived.Test.YtoblilngppjmhaaDoorW9Uff
import Derived.Test.YtoblilngppjmhaaDoorW9Uc
namespace Go.Proofs.YtoblilngppjmhaaDoor
open Go.RowKit
set_option maxRecDepth 100000

/-- A multiplier is laid into a new cell. -/
theorem laid_mu (w1 : World) (L : List Int) : Below w1.heap.size w1 ((w1.alloc (.cells #[.int .i64 0, .int .i64 0, .int .i64 0, .int .i64 0, .int .i64 0, .int .i64 0, .int .i64 0, .int .i64 0, .int .i64 0, .int .i64 0, .int .i64 0, .int .i64 0, .int .i64 0, .int .i64 0, .int .i64 0, .int .i64 0] 89)).setRow w1.heap.size (I64 L).toArray) ∧ Arr ((w1.alloc (.cells #[.int .i64 0, .int .i64 0, .int .i64 0, .int .i64 0, .int .i64 0, .int .i64 0, .int .i64 0, .int .i64 0, .int .i64 0, .int .i64 0, .int .i64 0, .int .i64 0, .int .i64 0, .int .i64 0, .int .i64 0, .int .i64 0] 89)).setRow w1.heap.size (I64 L).toArray) w1.heap.size 89 (I64 L) ∧ Arr (w1.alloc (.cells #[.int .i64 0, .int .i64 0, .int .i64 0, .int .i64 0, .int .i64 0, .int .i64 0, .int .i64 0, .int .i64 0, .int .i64 0, .int .i64 0, .int .i64 0, .int .i64 0, .int .i64 0, .int .i64 0, .int .i64 0, .int .i64 0] 89)) w1.heap.size 89 (I64 Z16) := by
  have q : Arr (w1.alloc (.cells #[.int .i64 0, .int .i64 0, .int .i64 0, .int .i64 0, .int .i64 0, .int .i64 0, .int .i64 0, .int .i64 0, .int .i64 0, .int .i64 0, .int .i64 0, .int .i64 0, .int .i64 0, .int .i64 0, .int .i64 0, .int .i64 0] 89)) w1.heap.size 89 (I64 Z16) := Arr.new w1 (I64 Z16) _
  exact ⟨setRow_below ((Below.refl _ _).alloc (Nat.le_refl _) _) _ _ (Nat.le_refl _), q.row _, q⟩

end Go.Proofs.YtoblilngppjmhaaDoor
namespace Go.Proofs.YtoblilngppjmhaaDoor
open Go.RowKit
set_option maxRecDepth 100000

/-- The parts that the bytes make. -/
def rdL (bs : List Int) : List Int := (List.range 16).map fun i => bs.getD (2 * i) 0 + 256 * bs.getD (2 * i + 1) 0
theorem rdL_len (bs : List Int) : (rdL bs).length = 16 := by simp [rdL]
theorem rdL_get (bs : List Int) (k : Nat) (h : k < 16) : (rdL bs).getD k 0 = bs.getD (2 * k) 0 + 256 * bs.getD (2 * k + 1) 0 := by
  unfold rdL
  rw [List.getD, List.getElem?_map, List.getElem?_range h]
  rfl
theorem gD_u8 {bs : List Int} (h : ∀ x ∈ bs, 0 ≤ x ∧ x < 256) (j : Nat) : 0 ≤ bs.getD j 0 ∧ bs.getD j 0 < 256 := by
  by_cases hj : j < bs.length
  · rw [List.getD, List.getElem?_eq_getElem hj]
    exact h _ (List.getElem_mem hj)
  · rw [List.getD, List.getElem?_eq_none (by omega)]
    simp
theorem rdL_lm {bs : List Int} (h : ∀ x ∈ bs, 0 ≤ x ∧ x < 256) : Lm (rdL bs) := by
  refine lm_of (rdL_len bs) fun j hj => ?_
  rw [rdL_get bs j hj]
  have h1 := gD_u8 h (2 * j)
  have h2 := gD_u8 h (2 * j + 1)
  omega

end Go.Proofs.YtoblilngppjmhaaDoor
namespace Go.Proofs.YtoblilngppjmhaaDoor
open Go.RowKit

/-- One new cell, as a slice of one byte. -/
theorem Bs.one (w : World) (x : Int) (h0 : 0 ≤ x) (h1 : x < 256) : Bs (w.alloc (.cells #[.int .u8 x] 5)) (some ⟨w.heap.size, 0, none⟩) 1 1 [x] := by
  refine ⟨(fun h => by cases h), rfl, Nat.le_refl _, ?_, .inr ⟨w.heap.size, 0, rfl, by simp, ?_⟩⟩
  · intro y hy; simp at hy; omega
  · intro j hj
    have : j = 0 := by omega
    subst this
    rw [World.cell?_alloc_at _ _ _ _ rfl]; rfl

end Go.Proofs.YtoblilngppjmhaaDoor
namespace Go.Proofs.YtoblilngppjmhaaDoor
open Go.RowKit
set_option maxRecDepth 100000

end Go.Proofs.YtoblilngppjmhaaDoor
namespace Go.Proofs.YtoblilngppjmhaaDoor
open Go.RowKit
set_option maxRecDepth 100000

/-- What is read of the first k bytes. -/
def rdP (bs : List Int) (k : Nat) : List Int := (List.range 16).map fun i => (if 2 * i < k then bs.getD (2 * i) 0 else 0) + 256 * (if 2 * i + 1 < k then bs.getD (2 * i + 1) 0 else 0)
theorem rdP_len (bs : List Int) (k : Nat) : (rdP bs k).length = 16 := by simp [rdP]
theorem rdP_zero (bs : List Int) : rdP bs 0 = Z16 := by simp [rdP]; rfl
theorem rdP_end (bs : List Int) : rdP bs 32 = rdL bs := by
  unfold rdP rdL
  apply List.map_congr_left
  intro i hi
  have := List.mem_range.1 hi
  rw [if_pos (by omega), if_pos (by omega)]
theorem rdP_get (bs : List Int) (k i : Nat) (h : i < 16) : (rdP bs k).getD i 0 = (if 2 * i < k then bs.getD (2 * i) 0 else 0) + 256 * (if 2 * i + 1 < k then bs.getD (2 * i + 1) 0 else 0) := by
  simp [rdP, h]
theorem rdP_set (bs : List Int) (k j : Nat) (hj : j = k / 2) (hk : k < 32) (v : Int) (hv : v = (rdP bs (k + 1)).getD j 0) : (I64 (rdP bs k)).set j (.int .i64 v) = I64 (rdP bs (k + 1)) := by
  rw [← List.map_set]
  congr 1
  have ge : ∀ m i, (rdP bs m)[i]? = if i < 16 then some ((rdP bs m).getD i 0) else none := by
    intro m i
    split
    · rename_i h; rw [List.getD, List.getElem?_eq_getElem (by rw [rdP_len]; exact h)]; rfl
    · rename_i h; rw [List.getElem?_eq_none (by rw [rdP_len]; omega)]
  apply List.ext_getElem?
  intro i
  rw [List.getElem?_set, ge, ge, rdP_len]
  by_cases e : j = i
  · subst e
    rw [if_pos rfl, if_pos (by omega), if_pos (by omega), hv]
  · rw [if_neg e]
    by_cases hi : i < 16
    · rw [if_pos hi, if_pos hi, rdP_get bs k i hi, rdP_get bs (k + 1) i hi]
      have e1 : (2 * i < k) ↔ (2 * i < k + 1) := by omega
      have e2 : (2 * i + 1 < k) ↔ (2 * i + 1 < k + 1) := by omega
      simp only [e1, e2]
    · rw [if_neg hi, if_neg hi]
theorem rdP_even (bs : List Int) (k j : Nat) (hj : k = 2 * j) (hk : k < 32) : (rdP bs k).getD j 0 = 0 ∧ (rdP bs (k + 1)).getD j 0 = bs.getD k 0 := by
  subst hj
  rw [rdP_get _ _ _ (by omega), rdP_get _ _ _ (by omega), if_neg (by omega), if_neg (by omega), if_pos (by omega), if_neg (by omega)]
  omega
theorem rdP_odd (bs : List Int) (k j : Nat) (hj : k = 2 * j + 1) (hk : k < 32) : (rdP bs k).getD j 0 = bs.getD (2 * j) 0 ∧ (rdP bs (k + 1)).getD j 0 = bs.getD (2 * j) 0 + 256 * bs.getD k 0 := by
  subst hj
  rw [rdP_get _ _ _ (by omega), rdP_get _ _ _ (by omega), if_pos (by omega), if_neg (by omega), if_pos (by omega), if_pos (by omega)]
  omega
/-- Whether there are as many bytes; the limbs, or none. -/
def rdB (bs : List Int) : Bool := decide (bs.length = 32)
def rdZ (bs : List Int) : List Int := if rdB bs = true then rdL bs else Z16
theorem rdZ_len (bs : List Int) : (rdZ bs).length = 16 := by unfold rdZ; split <;> simp [rdL_len]
theorem or_zero {x : Int} (h0 : 0 ≤ x) (h1 : x < 256) : bits .or .i64 0 x = x := by
  have := bits_join .i64 63 (by decide) (fun n a b => by rw [IntKind.wrap_i64]; omega) 8 0 x (by omega) (by decide) (by decide) h0 (by omega) (by omega)
  rw [this]; omega
theorem or_high {x y : Int} (h0 : 0 ≤ x) (h1 : x < 256) (g0 : 0 ≤ y) (g1 : y < 256) : bits .or .i64 y (x * 256) = y + 256 * x := by
  have := bits_join .i64 63 (by decide) (fun n a b => by rw [IntKind.wrap_i64]; omega) 8 (x * 256) y (by omega) (by omega) (by omega) g0 (by omega) (by omega)
  have hc : bits .or .i64 y (x * 256) = bits .or .i64 (x * 256) y := by unfold bits; simp only [BitVec.or_comm]
  rw [hc, this]; omega

set_option maxHeartbeats 4000000 in
theorem implLimbsRead (a : Option Addr) (n c : Nat) (bs : List Int) (w : World) (hx : Bs w a n c bs) :
    Calls Tryd.prog 71 #[.slice a n c] w fun e w' => e = .returned (.tuple #[.agg (I64 (rdZ bs)).toArray, .bool (rdB bs)]) ∧ Below w.heap.size w w' := by
  obtain ⟨_, hl, hc, hr, hx⟩ := hx
  obtain ⟨L, hL⟩ : ∃ L, L = rdZ bs := ⟨_, rfl⟩
  obtain ⟨r, hrr⟩ : ∃ r, r = rdB bs := ⟨_, rfl⟩
  have HLr : Hid (L = if r = true then rdL bs else Z16) := by unfold Hid; rw [hL, hrr]; rfl
  have HRR : Hid _ := hrr
  rw [← hL, ← hrr]
  clear hL hrr
  obtain ⟨W, hW⟩ : ∃ W, W = (w.alloc (.cells #[.int .i64 0, .int .i64 0, .int .i64 0, .int .i64 0, .int .i64 0, .int .i64 0, .int .i64 0, .int .i64 0, .int .i64 0, .int .i64 0, .int .i64 0, .int .i64 0, .int .i64 0, .int .i64 0, .int .i64 0, .int .i64 0] 70)).alloc (.cells #[.int .i64 0, .int .i64 0, .int .i64 0, .int .i64 0, .int .i64 0, .int .i64 0, .int .i64 0, .int .i64 0, .int .i64 0, .int .i64 0, .int .i64 0, .int .i64 0, .int .i64 0, .int .i64 0, .int .i64 0, .int .i64 0] 70) := ⟨_, rfl⟩
  have g1 : Arr W w.heap.size 70 (I64 Z16) := by rw [hW]; exact (Arr.new w (I64 Z16) _).alloc _
  have g0 : Arr W (w.heap.size + 1) 70 (I64 Z16) := by
    rw [hW]
    have := Arr.new (w.alloc (.cells (I64 Z16).toArray 70)) (I64 Z16) 70
    rw [World.size_alloc] at this
    exact this
  have gB : Below w.heap.size w W := by rw [hW]; exact ((Below.refl _ _).alloc (Nat.le_refl _) _).alloc (by simp) _
  by_cases hn : n = 32
  rotate_left
  · have hf : r = false := by rw [HRR.out]; unfold rdB; simp [show ¬ bs.length = 32 by omega]
    have HE : Hid (L = Z16) := by unfold Hid; rw [HLr.out, hf]; rfl
    have hn' : ((n : Int) != 32) = true := by simp; omega
    have hn'' : ¬ ((n : Int) = 32) := by omega
    have g0' := hW ▸ g0
    have g1' := hW ▸ g1
    have h2 := g1'.row (I64 Z16)
    have HB := setRow_below (hW ▸ gB) w.heap.size (I64 Z16).toArray (Nat.le_refl _)
    clear hx hr HRR HLr g0 g1 gB hW
    go_enter Tryd.func71, Tryd.ntmps71
    go_wp2_with (first
      | (refine wpList_load_row rfl 70 _ rfl (w.heap.size + 1) rfl 70 (I64 Z16).toArray (0, 0) _ g0' Tryd.underlying70 rfl infoL ?_)
      | (refine wpList_store_row rfl 70 _ _ rfl w.heap.size (I64 Z16).toArray rfl rfl 70 _ g1' infoL rfl (by simp [Value.oneCell']) ?_))
    exact bodyPost_ret (results_row_tmp (v := .bool false) (cs := I64 Z16) rfl rfl rfl h2 Tryd.underlying70 rfl infoL) rfl ⟨by first | rw [hf, HE.out] | rw [HE.out], HB⟩
  subst hn
  rcases hx with hx | ⟨b, o, rfl, hbs, hcell⟩
  · omega
  have hr' := gD_u8 hr
  have HU8 : Hid _ := hr'
  clear hr hr'
  go_enter Tryd.func71, Tryd.ntmps71
  go_wp2
  rw [← hW]
  clear hW
  go_loopw [13] (fun i wr => ∃ k : Nat, k ≤ 32 ∧ i = .int .i64 k ∧ Arr wr (w.heap.size + 1) 70 (I64 (rdP bs k)) ∧ Arr wr w.heap.size 70 (I64 Z16) ∧ Below w.heap.size w wr) (fun i _ => 32 - (intOf i).toNat)
  case atStart => exact ⟨0, by omega, rfl, by rw [rdP_zero]; exact g0, g1, gB⟩
  case round =>
    clear g0 g1 gB
    obtain ⟨k, hk, rfl, g0, g1, gB⟩ := hrel
    have hPl := rdP_len bs k
    by_cases hlt : k < 32
    · obtain ⟨x, hx⟩ : ∃ x, x = bs.getD k 0 := ⟨_, rfl⟩
      have hxb := HU8.out k
      rw [← hx] at hxb
      have hck : wr.cell? ⟨b, o + k, none⟩ = some (.int .u8 x) := by rw [hx]; exact (gB.cell (p := ⟨b, o + k, none⟩) hbs).trans (hcell k hlt)
      have hk32 : (k : Int) < 32 := by omega
      have hk0 : (0 : Int) ≤ (k : Int) := by omega
      obtain ⟨j, hj⟩ : ∃ j, j = k / 2 := ⟨_, rfl⟩
      have hj16 : j < 16 := by omega
      have q1 : (k : Int) / 2 = (j : Int) := by omega
      have q2 : (j : Int) < 16 := by omega
      have q3 : (0 : Int) ≤ (j : Int) := by omega
      have c1 : IntKind.i64.wrap x = x := by rw [IntKind.wrap_i64]; omega
      have hset := fun v hv => rdP_set bs k j hj hlt v hv
      have hfz := g0.frozen j
      by_cases hpar : k % 2 = 0
      · obtain ⟨h1, h2⟩ := rdP_even bs k j (by omega) hlt
        rw [← hx] at h2
        have cz : wr.cell? ⟨w.heap.size + 1, j, none⟩ = some (.int .i64 0) := by rw [g0.i64 j (by omega), h1]
        have g0' := g0.set j (.int .i64 x)
        rw [hset x h2.symm] at g0'
        have g1' := g1.other ⟨w.heap.size + 1, j, none⟩ (.int .i64 x) (by simp)
        have gB' := gB.setCell (p := ⟨w.heap.size + 1, j, none⟩) (by simp) (.int .i64 x)
        have r1 : (k : Int) % 2 = 0 := by omega
        have o1 := or_zero hxb.1 hxb.2
        have H0 : Hid _ := g0'.drew
        have H1 : Hid _ := g1'.drew
        have HB : Hid _ := gB'.drew
        clear g0' g1' gB' g0 g1 gB hx hset h1 h2 hpar hcell hPl hj
        go_wp2
        go_region
        clear hck cz hfz
        go_wp2
        go_roundw
        case rel => exact ⟨k + 1, by omega, by go_num, H0.out, H1.out, HB.out⟩
        case measure => simp [intOf]; omega
      · obtain ⟨h1, h2⟩ := rdP_odd bs k j (by omega) hlt
        obtain ⟨y, hy⟩ : ∃ y, y = bs.getD (2 * j) 0 := ⟨_, rfl⟩
        have hyb := HU8.out (2 * j)
        rw [← hy] at hyb h1 h2
        rw [← hx] at h2
        have cz : wr.cell? ⟨w.heap.size + 1, j, none⟩ = some (.int .i64 y) := by rw [g0.i64 j (by omega), h1]
        have g0' := g0.set j (.int .i64 (y + 256 * x))
        rw [hset _ h2.symm] at g0'
        have g1' := g1.other ⟨w.heap.size + 1, j, none⟩ (.int .i64 (y + 256 * x)) (by simp)
        have gB' := gB.setCell (p := ⟨w.heap.size + 1, j, none⟩) (by simp) (.int .i64 (y + 256 * x))
        have r1 : (k : Int) % 2 = 1 := by omega
        have o1 := or_high hxb.1 hxb.2 hyb.1 hyb.2
        have o2 : IntKind.i64.wrap (x * 256) = x * 256 := by rw [IntKind.wrap_i64]; omega
        have H0 : Hid _ := g0'.drew
        have H1 : Hid _ := g1'.drew
        have HB : Hid _ := gB'.drew
        clear g0' g1' gB' g0 g1 gB hx hy hset h1 h2 hpar hcell hPl hj
        go_wp2
        go_region
        clear hck cz hfz
        go_wp2
        go_roundw
        case rel => exact ⟨k + 1, by omega, by go_num, H0.out, H1.out, HB.out⟩
        case measure => simp [intOf]; omega
    · obtain rfl : k = 32 := by omega
      rw [rdP_end] at g0
      have hRl := rdL_len bs
      have hf : r = true := by rw [HRR.out]; unfold rdB; simp [hl]
      have hE : L = rdL bs := by rw [HLr.out, hf]; rfl
      obtain ⟨R, hR⟩ : ∃ R, R = rdL bs := ⟨_, rfl⟩
      rw [← hR] at g0 hRl hE
      have hix : (Tryd.prog.info? 70).map (·.size) = some (I64 R).toArray.size := by simpa [hRl] using infoL
      have h2 := g1.row (I64 R)
      have HB := setRow_below gB w.heap.size (I64 R).toArray (Nat.le_refl _)
      have HE : Hid _ := hE
      have HF : Hid _ := hf
      clear hcell hPl hE hR hf
      go_wp2_with (first
        | (refine wpList_load_row rfl 70 _ rfl (w.heap.size + 1) rfl 70 (I64 R).toArray (0, 0) _ g0 Tryd.underlying70 rfl hix ?_)
        | (refine wpList_store_row rfl 70 _ _ rfl w.heap.size (I64 R).toArray rfl rfl 70 _ g1 hix (by simp [hRl]) (by simp [Value.oneCell']) ?_))
      exact bodyPost_ret (results_row_tmp (v := .bool true) (cs := I64 R) rfl rfl rfl h2 Tryd.underlying70 rfl (by simpa [hRl] using infoL)) rfl ⟨by rw [HF.out, HE.out], HB⟩

theorem Bs.two (w : World) (x y : Int) (h0 : 0 ≤ x) (h1 : x < 256) (g0 : 0 ≤ y) (g1 : y < 256) : Bs (w.alloc (.cells #[.int .u8 x, .int .u8 y] 5)) (some ⟨w.heap.size, 0, none⟩) 2 2 [x, y] := by
  refine ⟨(fun h => by cases h), rfl, Nat.le_refl _, ?_, .inr ⟨w.heap.size, 0, rfl, by simp, ?_⟩⟩
  · intro z hz; simp at hz; omega
  · intro j hj
    have : j = 0 ∨ j = 1 := by omega
    rcases this with rfl | rfl <;> (rw [World.cell?_alloc_at _ _ _ _ rfl]; rfl)

end Go.Proofs.YtoblilngppjmhaaDoor
namespace Go.Proofs.YtoblilngppjmhaaDoor
open Go.RowKit
set_option maxRecDepth 100000

/-- Whether the bytes are those of a number, and which. -/
def rdOkO (bs : List Int) : Bool := decide (bs.length = 32) && decide (val (rdL bs) < qO)
def rdFO (bs : List Int) : List Int := if rdOkO bs = true then rdL bs else []
end Go.Proofs.YtoblilngppjmhaaDoor
namespace Go.Proofs.YtoblilngppjmhaaDoor
open Go.RowKit
set_option maxRecDepth 100000

theorem own_otherS {w : World} {b e s n : Nat} {v : Value} {xs : List Value} (h : w.ownsRow b e s v n xs) (p : Addr) (u : Value) (hp : p.block < b) : (w.setCell p u).ownsRow b e s v n xs := by
  refine ⟨h.1, ?_⟩
  rcases h.2 with hn | ⟨g, cap, cur, rfl, hg, hgg, rest⟩
  · exact .inl hn
  · refine .inr ⟨g, cap, cur, rfl, hg, ?_, rest⟩
    rw [heap_setCell_other w p g u (by omega)]
    exact hgg


set_option maxHeartbeats 1000000 in
theorem specScOut (l : List Int) (w : World) (hl : l.length = 16) (hm : Lm l) :
    Calls Tryd.prog 114 #[.agg (I64 l).toArray] w fun e w' => ∃ a c, e = .returned (.agg #[.slice a 16 c]) ∧ w'.ownsRow w.heap.size 3 1 (.slice a 16 c) 16 (I64 l) ∧ Below w.heap.size w w' := by
  obtain ⟨A, hA⟩ : ∃ A, A = (I64 l).toArray := ⟨_, rfl⟩
  rw [← hA]
  obtain ⟨W, hW⟩ : ∃ W, W = (w.alloc (.cells A 82)).alloc (.cells #[.slice none 0 0] 37) := ⟨_, rfl⟩
  have g0 : Arr W w.heap.size 82 (I64 l) := by rw [hW, hA]; exact (Arr.new w (I64 l) _).alloc _
  have g1 : Arr W (w.heap.size + 1) 37 [.slice none 0 0] := by
    rw [hW]
    have := Arr.new (w.alloc (.cells A 82)) [.slice none 0 0] 37
    rw [World.size_alloc] at this
    exact this
  have gB : Below w.heap.size w W := by rw [hW]; exact ((Below.refl _ _).alloc (Nat.le_refl _) _).alloc (by simp) _
  clear hA
  go_enter Tryd.func114, Tryd.ntmps114
  go_wp2
  go_loopw [3, 4] (fun v i wr => ∃ k : Nat, k ≤ 16 ∧ i = .int .i64 k ∧ wr.ownsRow (w.heap.size + 2) 3 1 v k (I64 (l.take k)) ∧ Arr wr w.heap.size 82 (I64 l) ∧ Arr wr (w.heap.size + 1) 37 [.slice none 0 0] ∧ Below w.heap.size w wr ∧ w.heap.size + 2 ≤ wr.heap.size) (fun _ i _ => 16 - (intOf i).toNat)
  case atStart => exact ⟨0, by omega, rfl, by simpa using World.ownsRow_nil _ _ _ _, hW ▸ g0, hW ▸ g1, hW ▸ gB, by simp⟩
  case round =>
    clear g0 g1 gB hW
    obtain ⟨k, hk, rfl, ho, g0, g1, gB, gs⟩ := hrel
    by_cases hlt : k < 16
    · obtain ⟨x, hx⟩ : ∃ x, x = l.getD k 0 := ⟨_, rfl⟩
      have hck := g0.i64 k (by omega)
      rw [← hx] at hck
      have hxb := gD_lm hm k
      rw [← hx] at hxb
      have hts := take_app l k (by omega)
      rw [← hx] at hts
      have HTS : Hid _ := hts
      have hk16 : (k : Int) < 16 := by omega
      have hk0 : (0 : Int) ≤ (k : Int) := by omega
      clear hts hx
      go_wp2_with (at_builtin; refine wpl_append_is rfl _ _ rfl (w.heap.size + 2) _ k (l.take k) rfl (some ⟨wr.heap.size, 0, none⟩) 1 1 [x] rfl (ho.alloc _) ?_ ?_ ?_ ?_)
      · exact Is.one _ _ (by omega) (by omega)
      · omega
      · first | omega | (simp; omega)
      intro v' w' h1 h2 _
      have hbA : Below (w.heap.size + 2) wr w' := ((Below.refl _ _).alloc (by omega) _).grown h2 (by simp; omega) (fun j hj => (ho.lt j hj).1)
      have g0' := g0.below hbA (by omega)
      have g1' := g1.below hbA (by omega)
      have gB' := gB.trans (hbA.mono (by omega))
      have gs' := Nat.le_trans gs hbA.size
      have HR : Hid (w'.ownsRow (w.heap.size + 2) 3 1 v' (k + 1) (I64 (l.take (k + 1)))) := by
        unfold Hid
        rw [HTS.out]; simpa using h1
      clear h1 h2 ho g0 g1 gB hbA HTS hck
      go_wp2
      go_roundw
      case rel => exact ⟨k + 1, by omega, by go_num, HR.out, g0', g1', gB', gs'⟩
      case measure => simp [intOf]; omega
    · obtain rfl : k = 16 := by omega
      rw [List.take_of_length_le (by omega)] at ho
      obtain ⟨a, c, rfl, _, _⟩ := Is.own ho (fun x hx => by have := hm x hx; omega)
      have c1 : wr.cell? ⟨w.heap.size + 1, 0, none⟩ = some (.slice none 0 0) := g1.cell 0
      have hf1 := g1.frozen 0
      have g1' := g1.set 0 (.slice a 16 c)
      have gB' := gB.setCell (p := ⟨w.heap.size + 1, 0, none⟩) (by simp) (.slice a 16 c)
      have ho' := own_base (own_otherS ho ⟨w.heap.size + 1, 0, none⟩ (.slice a 16 c) (by show w.heap.size + 1 < w.heap.size + 2; omega)) (show w.heap.size ≤ w.heap.size + 2 by omega)
      have G1 : Hid _ := g1'
      have GB : Hid _ := gB'
      have HO : Hid _ := ho'
      clear g1' gB' ho' g0 g1 gB ho
      go_wp2
      exact bodyPost_ret (results_cell_row rfl _ _ (w.heap.size + 1) 37 _ (0, 0) _ rfl G1.out Tryd.underlying37 rfl (by kernel_rfl)) rfl ⟨a, c, rfl, HO.out, GB.out⟩
theorem infoSc : (Tryd.prog.info? 37).map (·.size) = some 1 := by kernel_rfl
end Go.Proofs.YtoblilngppjmhaaDoor

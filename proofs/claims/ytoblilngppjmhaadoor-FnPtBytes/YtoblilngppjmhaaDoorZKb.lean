/-
  What is proved here: contracts of the specification's l5order, l5isOk and ScOk: whether a slice of ints is a multiplier.
-/
import Derived.Test.YtoblilngppjmhaaDoorZUc
import Derived.Test.YtoblilngppjmhaaDoorZFn
import Derived.Test.YtoblilngppjmhaaDoorZFtk
import Derived.Deep.RegionHeld3
namespace Go.Proofs.YtoblilngppjmhaaDoor
open Go.RowKit
set_option maxRecDepth 100000

set_option maxHeartbeats 1000000 in
theorem specOrder (w : World) :
    Calls Tryd.prog 117 #[] w fun e w' => e = .returned (.agg (I64 OL).toArray) ∧ Below w.heap.size w w' := by
  obtain ⟨W, hW⟩ : ∃ W, W = w.alloc (.cells (I64 Z16).toArray 82) := ⟨_, rfl⟩
  have g0 : Arr (w.alloc (.cells #[.int .i64 0, .int .i64 0, .int .i64 0, .int .i64 0, .int .i64 0, .int .i64 0, .int .i64 0, .int .i64 0, .int .i64 0, .int .i64 0, .int .i64 0, .int .i64 0, .int .i64 0, .int .i64 0, .int .i64 0, .int .i64 0] 82)) w.heap.size 82 (I64 Z16) := Arr.new w (I64 Z16) _
  have gB : Below w.heap.size w (w.alloc (.cells #[.int .i64 0, .int .i64 0, .int .i64 0, .int .i64 0, .int .i64 0, .int .i64 0, .int .i64 0, .int .i64 0, .int .i64 0, .int .i64 0, .int .i64 0, .int .i64 0, .int .i64 0, .int .i64 0, .int .i64 0, .int .i64 0] 82)) := (Below.refl _ _).alloc (Nat.le_refl _) _
  have g1 := g0.row (I64 OL)
  have gB1 := setRow_below gB w.heap.size (I64 OL).toArray (Nat.le_refl _)
  go_enter Tryd.func117, Tryd.ntmps117
  go_wp2_with (refine wpList_store_row rfl 82 _ _ rfl w.heap.size (I64 OL).toArray rfl rfl 82 _ g0 infoE rfl (by simp [OL, Value.oneCell']) ?_)
  exact bodyPost_ret (results_cell_row rfl _ _ w.heap.size 82 (I64 OL).toArray (0, 0) _ rfl g1 Tryd.underlying82 rfl infoE) rfl ⟨rfl, gB1⟩
theorem scOk_no {xs : List Int} {k : Nat} (h : ¬ (0 ≤ xs.getD k 0 ∧ xs.getD k 0 < 65536)) : scOk xs = false := by
  cases e : scOk xs with
  | false => rfl
  | true =>
    have := ((scOk_iff xs).1 e).2.1
    exact absurd (gD_lm this k) h
/-- An array of sixteen, through whatever keeps what is there. -/
structure Ek5 (w W : World) (g : Nat) (l : List Int) : Prop where
  fr : Below w.heap.size w W
  ar : Arr W g 82 (I64 l)
theorem Ek5.go {w A B : World} {g : Nat} {l : List Int} (h : Ek5 w A g l) (hb : Below A.heap.size A B) : Ek5 w B g l := ⟨h.fr.trans (hb.mono h.fr.size), h.ar.kept hb⟩
theorem Ek5.all {w W : World} {g : Nat} {l : List Int} (h : Ek5 w W g l) : W.rangeAt g 0 (I64 l) := arr_range h.ar

set_option maxHeartbeats 2000000 in
theorem specScIsOk (a : Option Addr) (n c : Nat) (xs : List Int) (w : World) (hx : Is w a n c xs) :
    Calls Tryd.prog 70 #[.slice a n c] w fun e w' => e = .returned (.bool (scOk xs)) ∧ Below w.heap.size w w' := by
  obtain ⟨_, hl, hc, hr, hx⟩ := hx
  by_cases hn : n = 16
  rotate_left
  · have hf : scOk xs = false := by unfold scOk; simp [show ¬ xs.length = 16 by omega]
    rw [hf]
    have hn' : ((n : Int) != 16) = true := by simp; omega
    have hn'' : ¬ ((n : Int) = 16) := by omega
    clear hf hx hr
    go_enter Tryd.func70, Tryd.ntmps70
    go_wp2
    go_ret
    exact ⟨rfl, Below.refl _ _⟩
  subst hn
  rcases hx with hx | ⟨b, o, rfl, hbs, hcell⟩
  · omega
  obtain ⟨r, hrr⟩ : ∃ r, r = scOk xs := ⟨_, rfl⟩
  rw [← hrr]
  have HRR : Hid _ := hrr
  clear hrr
  obtain ⟨W, hW⟩ : ∃ W, W = w.alloc (.cells (I64 Z16).toArray 82) := ⟨_, rfl⟩
  have g0 : Arr W w.heap.size 82 (I64 (xs.take 0 ++ Z16.drop 0)) := by rw [hW]; exact Arr.new w (I64 Z16) _
  have gB : Below w.heap.size w W := by rw [hW]; exact (Below.refl _ _).alloc (Nat.le_refl _) _
  go_enter Tryd.func70, Tryd.ntmps70
  go_wp2
  go_loopw [4] (fun i wr => ∃ k : Nat, k ≤ 16 ∧ i = .int .i64 k ∧ (∀ j, j < k → 0 ≤ xs.getD j 0 ∧ xs.getD j 0 < 65536) ∧ Arr wr w.heap.size 82 (I64 (xs.take k ++ Z16.drop k)) ∧ Below w.heap.size w wr) (fun i _ => 16 - (intOf i).toNat)
  case atStart => exact ⟨0, by omega, rfl, fun j hj => by omega, hW ▸ g0, hW ▸ gB⟩
  case round =>
    clear g0 gB hW
    obtain ⟨k, hk, rfl, hin, g0, gB⟩ := hrel
    have hfl : (xs.take k).length = k := by simp; omega
    by_cases hlt : k < 16
    · obtain ⟨x, hx⟩ : ∃ x, x = xs.getD k 0 := ⟨_, rfl⟩
      have hck : wr.cell? ⟨b, o + k, none⟩ = some (.int .i64 x) := by rw [hx]; exact (gB.cell (p := ⟨b, o + k, none⟩) hbs).trans (hcell k hlt)
      have hk16 : (k : Int) < 16 := by omega
      have hk0 : (0 : Int) ≤ (k : Int) := by omega
      by_cases hgood : 0 ≤ x ∧ x < 65536
      · obtain ⟨hx0, hx1⟩ := hgood
        have hn0 : ¬ x < 0 := by omega
        have hn1 : ¬ (65535 : Int) < x := by omega
        obtain ⟨u, hu⟩ : ∃ u, wr.cell? ⟨w.heap.size, k, none⟩ = some u := by
          rw [g0.cell k]
          exact ⟨_, List.getElem?_eq_getElem (by simp [hl]; omega)⟩
        have hfz := g0.frozen k
        have hts := take_app xs k (by omega)
        have g0' := g0.set k (.int .i64 x)
        rw [set_app hfl (show k < Z16.length from hlt), hx, ← hts, ← hx] at g0'
        have gB' := gB.setCell (p := ⟨w.heap.size, k, none⟩) (Nat.le_refl _) (.int .i64 x)
        have hin' : ∀ j, j < k + 1 → 0 ≤ xs.getD j 0 ∧ xs.getD j 0 < 65536 := by
          intro j hj
          by_cases e : j = k
          · subst e; rw [← hx]; exact ⟨hx0, hx1⟩
          · exact hin j (by omega)
        have H0 : Hid _ := g0'
        have HB : Hid _ := gB'
        have HI : Hid _ := hin'
        clear g0' gB' hin' g0 gB hin hx hts hcell hr
        go_wp2
        go_roundw
        case rel => exact ⟨k + 1, by omega, by go_num, HI.out, H0.out, HB.out⟩
        case measure => simp [intOf]; omega
      · have hf : r = false := by rw [HRR.out]; exact scOk_no (k := k) (by rw [← hx]; exact hgood)
        clear hin hx hcell hr g0
        by_cases hx0 : x < 0
        · go_wp2
          go_ret
          exact ⟨by first | rfl | (rw [hf]; rfl), gB⟩
        · have hx1 : (65535 : Int) < x := by omega
          go_wp2
          go_ret
          exact ⟨by first | rfl | (rw [hf]; rfl), gB⟩
    · obtain rfl : k = 16 := by omega
      rw [List.take_of_length_le (by omega), show Z16.drop 16 = [] from rfl, List.append_nil] at g0
      have hm := lm_of hl hin
      have hrv : decide (val xs < qO) = r := by
        rw [HRR.out]
        by_cases hv : val xs < qO
        · rw [(scOk_iff xs).2 ⟨hl, hm, hv⟩]; simp [hv]
        · cases e : scOk xs with
          | false => simp [hv]
          | true => exact absurd ((scOk_iff xs).1 e).2.2 hv
      have HLS : Hid (∀ Z, Calls Tryd.prog 119 #[.agg (I64 xs).toArray, .agg (I64 OL).toArray] Z fun e w' => e = .returned (.bool r) ∧ Below Z.heap.size Z w') := by
        unfold Hid
        intro Z
        have := specLess xs OL Z hl OL_len hm OL_lm
        rw [OL_val, hrv] at this
        exact this
      have EK : Ek5 w wr.drew w.heap.size xs := ⟨gB.drew, g0.drew⟩
      have hu65 : Tryd.prog.underlying 82 = some (.array 16 3) := Tryd.underlying82
      have hi65 : (Tryd.prog.info? 82).map (·.size) = some (I64 xs).length := by simpa [hl] using infoE
      clear hin g0 gB hcell hr hfl hrv hm
      go_wp2
      go_region_held3 (fun W => W.rangeAt w.heap.size 0 (I64 xs))
        (exact EK.all)
        ((first
          | (go_at_call 119; refine (HLS.out _).mono ?_; rintro e w2 ⟨rfl, hb2⟩; replace EK := EK.go hb2)
          | (go_at_call 117; refine (specOrder _).mono ?_; rintro e w1 ⟨rfl, hb1⟩; replace EK := EK.go hb1)))
      go_wp2
      go_ret
      exact ⟨rfl, EK.fr⟩

set_option maxHeartbeats 1000000 in
theorem specScOk (a : Option Addr) (n c : Nat) (xs : List Int) (w : World) (hx : Is w a n c xs) :
    Calls Tryd.prog 24 #[.agg #[.slice a n c]] w fun e w' => e = .returned (.bool (scOk xs)) ∧ Below w.heap.size w w' := by
  obtain ⟨W, hW⟩ : ∃ W, W = w.alloc (.cells #[.slice a n c] 37) := ⟨_, rfl⟩
  have gB : Below w.heap.size w W := by rw [hW]; exact (Below.refl _ _).alloc (Nat.le_refl _) _
  go_enter Tryd.func24, Tryd.ntmps24
  go_wp2_with fail
  rw [← hW]
  refine (specScIsOk a n c xs _ (hx.below gB)).mono ?_
  rintro e w1 ⟨rfl, hb1⟩
  have hB := gB.trans (hb1.mono gB.size)
  clear hW gB hb1 hx
  go_wp2
  go_ret
  exact ⟨rfl, hB⟩
end Go.Proofs.YtoblilngppjmhaaDoor

/-
  What is proved here: contracts of the specification's l4small and l4sub: a small number in parts, and the difference of two numbers of the field; contracts of the specification's l4in, l4out, l4isOk and FeOk: a number of the field out of a slice of ints and back into a new one, and whether a slice is one; contracts of the specification's l4isOk, FeOk and l4sub: whether a slice of ints is a number of the field, and the difference of two.
-/
import Derived.Test.YtpchdfdeomhakaaDoorZE
import Derived.Deep.RegionHeld3
import Derived.Test.YtpchdfdeomhakaaDoorZG
namespace Go.Proofs.YtpchdfdeomhakaaDoor
open Go.RowKit
set_option maxRecDepth 100000

theorem list16 {l : List Int} (h : l.length = 16) : ∃ a0 a1 a2 a3 a4 a5 a6 a7 a8 a9 a10 a11 a12 a13 a14 a15, l = [a0, a1, a2, a3, a4, a5, a6, a7, a8, a9, a10, a11, a12, a13, a14, a15] := by
  match l, h with
  | [a0, a1, a2, a3, a4, a5, a6, a7, a8, a9, a10, a11, a12, a13, a14, a15], _ => exact ⟨a0, a1, a2, a3, a4, a5, a6, a7, a8, a9, a10, a11, a12, a13, a14, a15, rfl⟩
theorem lim_snoc (k : Nat) (x : Int) : lim (k + 1) x = lim k x ++ [x / 65536 ^ k % 65536] := by
  induction k generalizing x with
  | zero => simp [lim]
  | succ k ih =>
    rw [lim, ih, lim, Int.pow_succ, Int.mul_comm (65536 ^ k) 65536, ← Int.ediv_ediv_of_nonneg (by omega)]
    rfl
theorem lim_add (m n : Nat) (x : Int) : lim (m + n) x = lim m x ++ lim n (x / 65536 ^ m) := by
  induction m generalizing x with
  | zero => simp [lim]
  | succ m ih =>
    rw [Nat.add_right_comm, lim, ih, lim, Int.pow_succ, Int.mul_comm (65536 ^ m) 65536, ← Int.ediv_ediv_of_nonneg (by omega)]
    rfl
theorem lim_small {n : Int} (h0 : 0 ≤ n) (h1 : n < 18446744073709551616) : lim 4 n ++ Z16.drop 4 = lim 16 n := by
  rw [show 16 = 4 + 12 from rfl, lim_add, show n / 65536 ^ 4 = 0 from Int.ediv_eq_zero_of_lt h0 (by simpa using h1)]
  rfl

set_option maxHeartbeats 1000000 in
theorem specSmall (n : Int) (w : World) (h0 : 0 ≤ n) (h1 : n < 9223372036854775808) :
    Calls Tryd.prog 95 #[.int .i64 n] w fun e w' => e = .returned (.agg (I64 (lim 16 n)).toArray) ∧ Below w.heap.size w w' := by
  have hls := lim_small h0 (by omega)
  obtain ⟨W, hW⟩ : ∃ W, W = (w.alloc (.cells (I64 Z16).toArray 65)).alloc (.cells (I64 Z16).toArray 65) := ⟨_, rfl⟩
  have g0 : Arr W w.heap.size 65 (I64 Z16) := by rw [hW]; exact (Arr.new w (I64 Z16) _).alloc _
  have g1 : Arr W (w.heap.size + 1) 65 (I64 (lim 0 n ++ Z16.drop 0)) := by
    rw [hW]
    have := Arr.new (w.alloc (.cells (I64 Z16).toArray 65)) (I64 Z16) 65
    rw [World.size_alloc] at this
    exact this
  have gB : Below w.heap.size w W := by rw [hW]; exact ((Below.refl _ _).alloc (Nat.le_refl _) _).alloc (by simp) _
  have HLS : Hid _ := hls
  clear hls
  go_enter Tryd.func95, Tryd.ntmps95
  go_wp2
  go_loopw [0, 4] (fun v i wr => ∃ (k : Nat) (m : Int), k ≤ 4 ∧ v = .int .i64 m ∧ m = n / 65536 ^ k ∧ i = .int .i64 k ∧ Arr wr w.heap.size 65 (I64 Z16) ∧ Arr wr (w.heap.size + 1) 65 (I64 (lim k n ++ Z16.drop k)) ∧ Below w.heap.size w wr) (fun _ i _ => 4 - (intOf i).toNat)
  case atStart => exact ⟨0, n, by omega, rfl, by simp, rfl, hW ▸ g0, hW ▸ g1, hW ▸ gB⟩
  case round =>
    clear g0 g1 gB hW
    obtain ⟨k, m, hk, rfl, hm, rfl, g0, g1, gB⟩ := hrel
    have hfl := lim_len k n
    have hm0 : 0 ≤ m ∧ m ≤ n := by
      rw [hm]
      exact ⟨Int.ediv_nonneg h0 (Int.le_of_lt (pow_pos16 k)), Int.ediv_le_self _ h0⟩
    by_cases hlt : k < 4
    · obtain ⟨u, hu⟩ : ∃ u, wr.cell? ⟨w.heap.size + 1, k, none⟩ = some u := by
        rw [g1.cell k]
        exact ⟨_, List.getElem?_eq_getElem (by simp [hfl]; omega)⟩
      have hfz := g1.frozen k
      have g1' := g1.set k (.int .i64 (m % 65536))
      rw [set_app hfl (show k < Z16.length by show k < 16; omega), hm, ← lim_snoc, ← hm] at g1'
      have g0' := g0.other ⟨w.heap.size + 1, k, none⟩ (.int .i64 (m % 65536)) (by simp)
      have gB' := gB.setCell (p := ⟨w.heap.size + 1, k, none⟩) (by simp) (.int .i64 (m % 65536))
      have s1 : bits .and .i64 m 65535 = m % 65536 := i64_low16 hm0.1 (by omega)
      have hmn : m / 65536 = n / 65536 ^ (k + 1) := by rw [hm, Int.pow_succ, ← Int.ediv_ediv_of_nonneg (Int.le_of_lt (pow_pos16 k))]
      have hk4 : (k : Int) < 4 := by omega
      have hk16 : (k : Int) < 16 := by omega
      have H0 : Hid _ := g0'
      have H1 : Hid _ := g1'
      have HB : Hid _ := gB'
      have HM : Hid _ := hmn
      clear g0' g1' gB' hmn g0 g1 gB hm
      go_wp2
      go_roundw
      case rel => exact ⟨k + 1, m / 65536, by omega, rfl, HM.out, by go_num, H0.out, H1.out, HB.out⟩
      case measure => simp [intOf]; omega
    · obtain rfl : k = 4 := by omega
      rw [HLS.out] at g1
      have hl : (lim 16 n).length = 16 := lim_len _ _
      obtain ⟨y, hy⟩ : ∃ y, y = lim 16 n := ⟨_, rfl⟩
      rw [← hy] at g1 hl
      have HY : Hid _ := hy
      have g0' := g0.row (I64 y)
      have gB' := setRow_below gB w.heap.size (I64 y).toArray (Nat.le_refl _)
      clear hy hm hfl
      go_wp2_with (first
        | (refine wpList_load_row rfl 65 _ rfl (w.heap.size + 1) rfl 65 (I64 y).toArray (0, 0) _ g1 Tryd.underlying65 rfl (by simpa [hl] using infoE) ?_)
        | (refine wpList_store_row rfl 65 _ _ rfl w.heap.size (I64 y).toArray rfl rfl 65 _ g0 (by simpa [hl] using infoE) (by simp [hl]) (by simp [Value.oneCell']) ?_))
      exact bodyPost_ret (results_cell_row rfl _ _ w.heap.size 65 (I64 y).toArray (0, 0) _ rfl g0' Tryd.underlying65 rfl (by simpa [hl] using infoE)) rfl ⟨by rw [HY.out], gB'⟩
end Go.Proofs.YtpchdfdeomhakaaDoor
namespace Go.Proofs.YtpchdfdeomhakaaDoor
open Go.RowKit
set_option maxRecDepth 100000

set_option maxHeartbeats 1000000 in
theorem specIn (a : Option Addr) (c : Nat) (xs : List Int) (w : World) (hx : Is w a 16 c xs) :
    Calls Tryd.prog 63 #[.agg #[.slice a 16 c]] w fun e w' => e = .returned (.agg (I64 xs).toArray) ∧ Below w.heap.size w w' := by
  obtain ⟨_, hl, hc, hr, hx⟩ := hx
  rcases hx with hx | ⟨b, o, rfl, hbs, hcell⟩
  · omega
  obtain ⟨W, hW⟩ : ∃ W, W = ((w.alloc (.cells #[.slice (some ⟨b, o, none⟩) 16 c] 25)).alloc (.cells (I64 Z16).toArray 65)).alloc (.cells (I64 Z16).toArray 65) := ⟨_, rfl⟩
  have g0 : Arr W w.heap.size 25 [.slice (some ⟨b, o, none⟩) 16 c] := by rw [hW]; exact ((Arr.new w [.slice (some ⟨b, o, none⟩) 16 c] _).alloc _).alloc _
  have g1 : Arr W (w.heap.size + 1) 65 (I64 Z16) := by
    rw [hW]
    have := (Arr.new (w.alloc (.cells #[.slice (some ⟨b, o, none⟩) 16 c] 25)) (I64 Z16) 65).alloc (.cells (I64 Z16).toArray 65)
    rw [World.size_alloc] at this
    exact this
  have g2 : Arr W (w.heap.size + 2) 65 (I64 (xs.take 0 ++ Z16.drop 0)) := by
    rw [hW]
    have := Arr.new ((w.alloc (.cells #[.slice (some ⟨b, o, none⟩) 16 c] 25)).alloc (.cells (I64 Z16).toArray 65)) (I64 Z16) 65
    rw [World.size_alloc, World.size_alloc] at this
    exact this
  have gB : Below w.heap.size w W := by rw [hW]; exact (((Below.refl _ _).alloc (Nat.le_refl _) _).alloc (by simp) _).alloc (by simp; omega) _
  go_enter Tryd.func63, Tryd.ntmps63
  go_wp2
  go_loopw [4] (fun i wr => ∃ k : Nat, k ≤ 16 ∧ i = .int .i64 k ∧ Arr wr w.heap.size 25 [.slice (some ⟨b, o, none⟩) 16 c] ∧ Arr wr (w.heap.size + 1) 65 (I64 Z16) ∧ Arr wr (w.heap.size + 2) 65 (I64 (xs.take k ++ Z16.drop k)) ∧ Below w.heap.size w wr) (fun i _ => 16 - (intOf i).toNat)
  case atStart => exact ⟨0, by omega, rfl, hW ▸ g0, hW ▸ g1, hW ▸ g2, hW ▸ gB⟩
  case round =>
    clear g0 g1 g2 gB hW
    obtain ⟨k, hk, rfl, g0, g1, g2, gB⟩ := hrel
    have hfl : (xs.take k).length = k := by simp; omega
    by_cases hlt : k < 16
    · obtain ⟨x, hx⟩ : ∃ x, x = xs.getD k 0 := ⟨_, rfl⟩
      have hck : wr.cell? ⟨b, o + k, none⟩ = some (.int .i64 x) := by rw [hx]; exact (gB.cell (p := ⟨b, o + k, none⟩) hbs).trans (hcell k hlt)
      have c0 : wr.cell? ⟨w.heap.size, 0, none⟩ = some (.slice (some ⟨b, o, none⟩) 16 c) := g0.cell 0
      obtain ⟨u, hu⟩ : ∃ u, wr.cell? ⟨w.heap.size + 2, k, none⟩ = some u := by
        rw [g2.cell k]
        exact ⟨_, List.getElem?_eq_getElem (by simp [hl]; omega)⟩
      have hfz := g2.frozen k
      have hts := take_app xs k (by omega)
      have g2' := g2.set k (.int .i64 x)
      rw [set_app hfl (show k < Z16.length from hlt), hx, ← hts, ← hx] at g2'
      have g0' := g0.other ⟨w.heap.size + 2, k, none⟩ (.int .i64 x) (by simp)
      have g1' := g1.other ⟨w.heap.size + 2, k, none⟩ (.int .i64 x) (by simp)
      have gB' := gB.setCell (p := ⟨w.heap.size + 2, k, none⟩) (by simp) (.int .i64 x)
      have hk16 : (k : Int) < 16 := by omega
      have hk0 : (0 : Int) ≤ (k : Int) := by omega
      have H0 : Hid _ := g0'
      have H1 : Hid _ := g1'
      have H2 : Hid _ := g2'
      have HB : Hid _ := gB'
      clear g0' g1' g2' gB' g0 g1 g2 gB hx hts hcell hr
      go_wp2
      go_roundw
      case rel => exact ⟨k + 1, by omega, by go_num, H0.out, H1.out, H2.out, HB.out⟩
      case measure => simp [intOf]; omega
    · obtain rfl : k = 16 := by omega
      rw [List.take_of_length_le (by omega), show Z16.drop 16 = [] from rfl, List.append_nil] at g2
      have g1' := g1.row (I64 xs)
      have gB' := setRow_below gB (w.heap.size + 1) (I64 xs).toArray (by omega)
      clear hfl hcell hr g0
      go_wp2_with (first
        | (refine wpList_load_row rfl 65 _ rfl (w.heap.size + 2) rfl 65 (I64 xs).toArray (0, 0) _ g2 Tryd.underlying65 rfl (by simpa [hl] using infoE) ?_)
        | (refine wpList_store_row rfl 65 _ _ rfl (w.heap.size + 1) (I64 xs).toArray rfl rfl 65 _ g1 (by simpa [hl] using infoE) (by simp [hl]) (by simp [Value.oneCell']) ?_))
      exact bodyPost_ret (results_cell_row rfl _ _ (w.heap.size + 1) 65 (I64 xs).toArray (0, 0) _ rfl g1' Tryd.underlying65 rfl (by simpa [hl] using infoE)) rfl ⟨rfl, gB'⟩

end Go.Proofs.YtpchdfdeomhakaaDoor
namespace Go.Proofs.YtpchdfdeomhakaaDoor
open Go.RowKit
set_option maxRecDepth 100000

theorem feOk_no {xs : List Int} {k : Nat} (h : ¬ (0 ≤ xs.getD k 0 ∧ xs.getD k 0 < 65536)) : feOk xs = false := by
  cases e : feOk xs with
  | false => rfl
  | true =>
    have := ((feOk_iff xs).1 e).2.1
    exact absurd (gD_lm this k) h
theorem lm_of {xs : List Int} (hl : xs.length = 16) (h : ∀ j, j < 16 → 0 ≤ xs.getD j 0 ∧ xs.getD j 0 < 65536) : Lm xs := by
  intro x hx
  obtain ⟨j, hj⟩ := List.mem_iff_getElem?.1 hx
  have hjl := (List.getElem?_eq_some_iff.1 hj).1
  have := h j (by omega)
  rw [List.getD, hj] at this
  simpa using this

theorem arr_range {W : World} {g : Nat} {t : TypeId} {cs : List Value} (h : Arr W g t cs) : W.rangeAt g 0 cs := by
  intro j v hj
  rw [Nat.zero_add, h.cell j]
  exact hj
/-- An array of sixteen, through whatever keeps what is there. -/
structure Ek (w W : World) (g : Nat) (l : List Int) : Prop where
  fr : Below w.heap.size w W
  ar : Arr W g 65 (I64 l)
theorem Ek.go {w A B : World} {g : Nat} {l : List Int} (h : Ek w A g l) (hb : Below A.heap.size A B) : Ek w B g l := ⟨h.fr.trans (hb.mono h.fr.size), h.ar.kept hb⟩
theorem Ek.all {w W : World} {g : Nat} {l : List Int} (h : Ek w W g l) : W.rangeAt g 0 (I64 l) := arr_range h.ar

set_option maxHeartbeats 2000000 in
theorem specIsOk (a : Option Addr) (n c : Nat) (xs : List Int) (w : World) (hx : Is w a n c xs) :
    Calls Tryd.prog 53 #[.slice a n c] w fun e w' => e = .returned (.bool (feOk xs)) ∧ Below w.heap.size w w' := by
  obtain ⟨_, hl, hc, hr, hx⟩ := hx
  by_cases hn : n = 16
  rotate_left
  · have hf : feOk xs = false := by unfold feOk; simp [show ¬ xs.length = 16 by omega]
    rw [hf]
    have hn' : ((n : Int) != 16) = true := by simp; omega
    have hn'' : ¬ ((n : Int) = 16) := by omega
    clear hf hx hr
    go_enter Tryd.func53, Tryd.ntmps53
    go_wp2
    go_ret
    exact ⟨rfl, Below.refl _ _⟩
  subst hn
  rcases hx with hx | ⟨b, o, rfl, hbs, hcell⟩
  · omega
  obtain ⟨r, hrr⟩ : ∃ r, r = feOk xs := ⟨_, rfl⟩
  rw [← hrr]
  have HRR : Hid _ := hrr
  clear hrr
  obtain ⟨W, hW⟩ : ∃ W, W = w.alloc (.cells (I64 Z16).toArray 65) := ⟨_, rfl⟩
  have g0 : Arr W w.heap.size 65 (I64 (xs.take 0 ++ Z16.drop 0)) := by rw [hW]; exact Arr.new w (I64 Z16) _
  have gB : Below w.heap.size w W := by rw [hW]; exact (Below.refl _ _).alloc (Nat.le_refl _) _
  go_enter Tryd.func53, Tryd.ntmps53
  go_wp2
  go_loopw [4] (fun i wr => ∃ k : Nat, k ≤ 16 ∧ i = .int .i64 k ∧ (∀ j, j < k → 0 ≤ xs.getD j 0 ∧ xs.getD j 0 < 65536) ∧ Arr wr w.heap.size 65 (I64 (xs.take k ++ Z16.drop k)) ∧ Below w.heap.size w wr) (fun i _ => 16 - (intOf i).toNat)
  case atStart => exact ⟨0, by omega, rfl, fun j hj => by omega, hW ▸ g0, hW ▸ gB⟩
  case round =>
    clear g0 gB hW
    obtain ⟨k, hk, rfl, hin, g0, gB⟩ := hrel
    have hfl : (xs.take k).length = k := by simp; omega
    by_cases hlt : k < 16
    · obtain ⟨x, hx⟩ : ∃ x, x = xs.getD k 0 := ⟨_, rfl⟩
      have hck : wr.cell? ⟨b, o + k, none⟩ = some (.int .i64 x) := by rw [hx]; exact (gB.cell (p := ⟨b, o + k, none⟩) hbs).trans (hcell k hlt)
      have hk16 : (k : Int) < 16 := by omega
      have hk0 : (0 : Int) ≤ (k : Int) := by omega
      by_cases hgood : 0 ≤ x ∧ x < 65536
      · obtain ⟨hx0, hx1⟩ := hgood
        have hn0 : ¬ x < 0 := by omega
        have hn1 : ¬ (65535 : Int) < x := by omega
        obtain ⟨u, hu⟩ : ∃ u, wr.cell? ⟨w.heap.size, k, none⟩ = some u := by
          rw [g0.cell k]
          exact ⟨_, List.getElem?_eq_getElem (by simp [hl]; omega)⟩
        have hfz := g0.frozen k
        have hts := take_app xs k (by omega)
        have g0' := g0.set k (.int .i64 x)
        rw [set_app hfl (show k < Z16.length from hlt), hx, ← hts, ← hx] at g0'
        have gB' := gB.setCell (p := ⟨w.heap.size, k, none⟩) (Nat.le_refl _) (.int .i64 x)
        have hin' : ∀ j, j < k + 1 → 0 ≤ xs.getD j 0 ∧ xs.getD j 0 < 65536 := by
          intro j hj
          by_cases e : j = k
          · subst e; rw [← hx]; exact ⟨hx0, hx1⟩
          · exact hin j (by omega)
        have H0 : Hid _ := g0'
        have HB : Hid _ := gB'
        have HI : Hid _ := hin'
        clear g0' gB' hin' g0 gB hin hx hts hcell hr
        go_wp2
        go_roundw
        case rel => exact ⟨k + 1, by omega, by go_num, HI.out, H0.out, HB.out⟩
        case measure => simp [intOf]; omega
      · have hf : r = false := by rw [HRR.out]; exact feOk_no (k := k) (by rw [← hx]; exact hgood)
        clear hin hx hcell hr g0
        by_cases hx0 : x < 0
        · go_wp2
          go_ret
          exact ⟨by first | rfl | (rw [hf]; rfl), gB⟩
        · have hx1 : (65535 : Int) < x := by omega
          go_wp2
          go_ret
          exact ⟨by first | rfl | (rw [hf]; rfl), gB⟩
    · obtain rfl : k = 16 := by omega
      rw [List.take_of_length_le (by omega), show Z16.drop 16 = [] from rfl, List.append_nil] at g0
      have hm := lm_of hl hin
      have hrv : decide (val xs < P25519) = r := by
        rw [HRR.out]
        by_cases hv : val xs < P25519
        · rw [(feOk_iff xs).2 ⟨hl, hm, hv⟩]; simp [hv]
        · cases e : feOk xs with
          | false => simp [hv]
          | true => exact absurd ((feOk_iff xs).1 e).2.2 hv
      have HLS : Hid (∀ Z, Calls Tryd.prog 82 #[.agg (I64 xs).toArray, .agg (I64 PL).toArray] Z fun e w' => e = .returned (.bool r) ∧ Below Z.heap.size Z w') := by
        unfold Hid
        intro Z
        have := specLess xs PL Z hl PL_len hm PL_lm
        rw [PL_val, hrv] at this
        exact this
      have EK : Ek w wr.drew w.heap.size xs := ⟨gB.drew, g0.drew⟩
      have hu65 : Tryd.prog.underlying 65 = some (.array 16 3) := Tryd.underlying65
      have hi65 : (Tryd.prog.info? 65).map (·.size) = some (I64 xs).length := by simpa [hl] using infoE
      clear hin g0 gB hcell hr hfl hrv hm
      go_wp2
      go_region_held3 (fun W => W.rangeAt w.heap.size 0 (I64 xs))
        (exact EK.all)
        ((first
          | (go_at_call 82; refine (HLS.out _).mono ?_; rintro e w2 ⟨rfl, hb2⟩; replace EK := EK.go hb2)
          | (go_at_call 70; refine (specPrime _).mono ?_; rintro e w1 ⟨rfl, hb1⟩; replace EK := EK.go hb1)))
      go_wp2
      go_ret
      exact ⟨rfl, EK.fr⟩

set_option maxHeartbeats 1000000 in
theorem specFeOk (a : Option Addr) (n c : Nat) (xs : List Int) (w : World) (hx : Is w a n c xs) :
    Calls Tryd.prog 17 #[.agg #[.slice a n c]] w fun e w' => e = .returned (.bool (feOk xs)) ∧ Below w.heap.size w w' := by
  obtain ⟨W, hW⟩ : ∃ W, W = w.alloc (.cells #[.slice a n c] 25) := ⟨_, rfl⟩
  have gB : Below w.heap.size w W := by rw [hW]; exact (Below.refl _ _).alloc (Nat.le_refl _) _
  go_enter Tryd.func17, Tryd.ntmps17
  go_wp2_with fail
  rw [← hW]
  refine (specIsOk a n c xs _ (hx.below gB)).mono ?_
  rintro e w1 ⟨rfl, hb1⟩
  have hB := gB.trans (hb1.mono gB.size)
  clear hW gB hb1 hx
  go_wp2
  go_ret
  exact ⟨rfl, hB⟩
end Go.Proofs.YtpchdfdeomhakaaDoor

/-
  What is proved here: contracts of the specification's l5in and l5out: a multiplier out of a slice of ints and back into a new one; what an answer is; contracts of the specification's l5order, l5isOk and ScOk: whether a slice of ints is a multiplier; contracts of the specification's l5twice and l5add: twice a multiplier and a bit, and the sum of two, modulo the order; the contract of the specification's l5mod: a number in at most 33 parts modulo the order.
-/
import Derived.Test.YtlafcjoccbinaaaDoorZE
import Derived.Test.YtlafcjoccbinaaaDoorZB
import Derived.Test.YtlafcjoccbinaaaDoorZKa
import Derived.Deep.RegionHeld3
namespace Go.Proofs.YtlafcjoccbinaaaDoor
open Go.RowKit
set_option maxRecDepth 100000

theorem own_other' {w : World} {b e s n : Nat} {v : Value} {xs : List Value} (h : w.ownsRow b e s v n xs) (p : Addr) (u : Value) (hp : p.block < b) : (w.setCell p u).ownsRow b e s v n xs := by
  refine ⟨h.1, ?_⟩
  rcases h.2 with hn | ⟨g, cap, cur, rfl, hg, hgg, rest⟩
  · exact .inl hn
  · refine .inr ⟨g, cap, cur, rfl, hg, ?_, rest⟩
    rw [heap_setCell_other w p g u (by omega)]
    exact hgg


set_option maxHeartbeats 1000000 in
theorem specScOut (l : List Int) (w : World) (hl : l.length = 16) (hm : Lm l) :
    Calls Tryd.prog 61 #[.agg (I64 l).toArray] w fun e w' => ∃ a c, e = .returned (.agg #[.slice a 16 c]) ∧ w'.ownsRow w.heap.size 3 1 (.slice a 16 c) 16 (I64 l) ∧ Below w.heap.size w w' := by
  obtain ⟨A, hA⟩ : ∃ A, A = (I64 l).toArray := ⟨_, rfl⟩
  rw [← hA]
  obtain ⟨W, hW⟩ : ∃ W, W = (w.alloc (.cells A 66)).alloc (.cells #[.slice none 0 0] 25) := ⟨_, rfl⟩
  have g0 : Arr W w.heap.size 66 (I64 l) := by rw [hW, hA]; exact (Arr.new w (I64 l) _).alloc _
  have g1 : Arr W (w.heap.size + 1) 25 [.slice none 0 0] := by
    rw [hW]
    have := Arr.new (w.alloc (.cells A 66)) [.slice none 0 0] 25
    rw [World.size_alloc] at this
    exact this
  have gB : Below w.heap.size w W := by rw [hW]; exact ((Below.refl _ _).alloc (Nat.le_refl _) _).alloc (by simp) _
  clear hA
  go_enter Tryd.func61, Tryd.ntmps61
  go_wp2
  go_loopw [3, 4] (fun v i wr => ∃ k : Nat, k ≤ 16 ∧ i = .int .i64 k ∧ wr.ownsRow (w.heap.size + 2) 3 1 v k (I64 (l.take k)) ∧ Arr wr w.heap.size 66 (I64 l) ∧ Arr wr (w.heap.size + 1) 25 [.slice none 0 0] ∧ Below w.heap.size w wr ∧ w.heap.size + 2 ≤ wr.heap.size) (fun _ i _ => 16 - (intOf i).toNat)
  case atStart => exact ⟨0, by omega, rfl, by simpa using World.ownsRow_nil _ _ _ _, hW ▸ g0, hW ▸ g1, hW ▸ gB, by simp⟩
  case round =>
    clear g0 g1 gB hW
    obtain ⟨k, hk, rfl, ho, g0, g1, gB, gs⟩ := hrel
    by_cases hlt : k < 16
    · obtain ⟨x, hx⟩ : ∃ x, x = l.getD k 0 := ⟨_, rfl⟩
      have hck := g0.i64 k (by omega)
      rw [← hx] at hck
      have hxb := gD_lm hm k
      rw [← hx] at hxb
      have hts := take_app l k (by omega)
      rw [← hx] at hts
      have HTS : Hid _ := hts
      have hk16 : (k : Int) < 16 := by omega
      have hk0 : (0 : Int) ≤ (k : Int) := by omega
      clear hts hx
      go_wp2_with (at_builtin; refine wpl_append_is rfl _ _ rfl (w.heap.size + 2) _ k (l.take k) rfl (some ⟨wr.heap.size, 0, none⟩) 1 1 [x] rfl (ho.alloc _) ?_ ?_ ?_ ?_)
      · exact Is.one _ _ (by omega) (by omega)
      · omega
      · first | omega | (simp; omega)
      intro v' w' h1 h2 _
      have hbA : Below (w.heap.size + 2) wr w' := ((Below.refl _ _).alloc (by omega) _).grown h2 (by simp; omega) (fun j hj => (ho.lt j hj).1)
      have g0' := g0.below hbA (by omega)
      have g1' := g1.below hbA (by omega)
      have gB' := gB.trans (hbA.mono (by omega))
      have gs' := Nat.le_trans gs hbA.size
      have HR : Hid (w'.ownsRow (w.heap.size + 2) 3 1 v' (k + 1) (I64 (l.take (k + 1)))) := by
        unfold Hid
        rw [HTS.out]; simpa using h1
      clear h1 h2 ho g0 g1 gB hbA HTS hck
      go_wp2
      go_roundw
      case rel => exact ⟨k + 1, by omega, by go_num, HR.out, g0', g1', gB', gs'⟩
      case measure => simp [intOf]; omega
    · obtain rfl : k = 16 := by omega
      rw [List.take_of_length_le (by omega)] at ho
      obtain ⟨a, c, rfl, _, _⟩ := Is.own ho (fun x hx => by have := hm x hx; omega)
      have c1 : wr.cell? ⟨w.heap.size + 1, 0, none⟩ = some (.slice none 0 0) := g1.cell 0
      have hf1 := g1.frozen 0
      have g1' := g1.set 0 (.slice a 16 c)
      have gB' := gB.setCell (p := ⟨w.heap.size + 1, 0, none⟩) (by simp) (.slice a 16 c)
      have ho' := own_base (own_other' ho ⟨w.heap.size + 1, 0, none⟩ (.slice a 16 c) (by show w.heap.size + 1 < w.heap.size + 2; omega)) (show w.heap.size ≤ w.heap.size + 2 by omega)
      have G1 : Hid _ := g1'
      have GB : Hid _ := gB'
      have HO : Hid _ := ho'
      clear g1' gB' ho' g0 g1 gB ho
      go_wp2
      exact bodyPost_ret (results_cell_row rfl _ _ (w.heap.size + 1) 25 _ (0, 0) _ rfl G1.out Tryd.underlying25 rfl (by kernel_rfl)) rfl ⟨a, c, rfl, HO.out, GB.out⟩
set_option maxHeartbeats 1000000 in
theorem specScIn (a : Option Addr) (c : Nat) (xs : List Int) (w : World) (hx : Is w a 16 c xs) :
    Calls Tryd.prog 66 #[.agg #[.slice a 16 c]] w fun e w' => e = .returned (.agg (I64 xs).toArray) ∧ Below w.heap.size w w' := by
  obtain ⟨_, hl, hc, hr, hx⟩ := hx
  rcases hx with hx | ⟨b, o, rfl, hbs, hcell⟩
  · omega
  obtain ⟨W, hW⟩ : ∃ W, W = ((w.alloc (.cells #[.slice (some ⟨b, o, none⟩) 16 c] 25)).alloc (.cells (I64 Z16).toArray 66)).alloc (.cells (I64 Z16).toArray 66) := ⟨_, rfl⟩
  have g0 : Arr W w.heap.size 25 [.slice (some ⟨b, o, none⟩) 16 c] := by rw [hW]; exact ((Arr.new w [.slice (some ⟨b, o, none⟩) 16 c] _).alloc _).alloc _
  have g1 : Arr W (w.heap.size + 1) 66 (I64 Z16) := by
    rw [hW]
    have := (Arr.new (w.alloc (.cells #[.slice (some ⟨b, o, none⟩) 16 c] 25)) (I64 Z16) 66).alloc (.cells (I64 Z16).toArray 66)
    rw [World.size_alloc] at this
    exact this
  have g2 : Arr W (w.heap.size + 2) 66 (I64 (xs.take 0 ++ Z16.drop 0)) := by
    rw [hW]
    have := Arr.new ((w.alloc (.cells #[.slice (some ⟨b, o, none⟩) 16 c] 25)).alloc (.cells (I64 Z16).toArray 66)) (I64 Z16) 66
    rw [World.size_alloc, World.size_alloc] at this
    exact this
  have gB : Below w.heap.size w W := by rw [hW]; exact (((Below.refl _ _).alloc (Nat.le_refl _) _).alloc (by simp) _).alloc (by simp; omega) _
  go_enter Tryd.func66, Tryd.ntmps66
  go_wp2
  go_loopw [4] (fun i wr => ∃ k : Nat, k ≤ 16 ∧ i = .int .i64 k ∧ Arr wr w.heap.size 25 [.slice (some ⟨b, o, none⟩) 16 c] ∧ Arr wr (w.heap.size + 1) 66 (I64 Z16) ∧ Arr wr (w.heap.size + 2) 66 (I64 (xs.take k ++ Z16.drop k)) ∧ Below w.heap.size w wr) (fun i _ => 16 - (intOf i).toNat)
  case atStart => exact ⟨0, by omega, rfl, hW ▸ g0, hW ▸ g1, hW ▸ g2, hW ▸ gB⟩
  case round =>
    clear g0 g1 g2 gB hW
    obtain ⟨k, hk, rfl, g0, g1, g2, gB⟩ := hrel
    have hfl : (xs.take k).length = k := by simp; omega
    by_cases hlt : k < 16
    · obtain ⟨x, hx⟩ : ∃ x, x = xs.getD k 0 := ⟨_, rfl⟩
      have hck : wr.cell? ⟨b, o + k, none⟩ = some (.int .i64 x) := by rw [hx]; exact (gB.cell (p := ⟨b, o + k, none⟩) hbs).trans (hcell k hlt)
      have c0 : wr.cell? ⟨w.heap.size, 0, none⟩ = some (.slice (some ⟨b, o, none⟩) 16 c) := g0.cell 0
      obtain ⟨u, hu⟩ : ∃ u, wr.cell? ⟨w.heap.size + 2, k, none⟩ = some u := by
        rw [g2.cell k]
        exact ⟨_, List.getElem?_eq_getElem (by simp [hl]; omega)⟩
      have hfz := g2.frozen k
      have hts := take_app xs k (by omega)
      have g2' := g2.set k (.int .i64 x)
      rw [set_app hfl (show k < Z16.length from hlt), hx, ← hts, ← hx] at g2'
      have g0' := g0.other ⟨w.heap.size + 2, k, none⟩ (.int .i64 x) (by simp)
      have g1' := g1.other ⟨w.heap.size + 2, k, none⟩ (.int .i64 x) (by simp)
      have gB' := gB.setCell (p := ⟨w.heap.size + 2, k, none⟩) (by simp) (.int .i64 x)
      have hk16 : (k : Int) < 16 := by omega
      have hk0 : (0 : Int) ≤ (k : Int) := by omega
      have H0 : Hid _ := g0'
      have H1 : Hid _ := g1'
      have H2 : Hid _ := g2'
      have HB : Hid _ := gB'
      clear g0' g1' g2' gB' g0 g1 g2 gB hx hts hcell hr
      go_wp2
      go_roundw
      case rel => exact ⟨k + 1, by omega, by go_num, H0.out, H1.out, H2.out, HB.out⟩
      case measure => simp [intOf]; omega
    · obtain rfl : k = 16 := by omega
      rw [List.take_of_length_le (by omega), show Z16.drop 16 = [] from rfl, List.append_nil] at g2
      have g1' := g1.row (I64 xs)
      have gB' := setRow_below gB (w.heap.size + 1) (I64 xs).toArray (by omega)
      clear hfl hcell hr g0
      go_wp2_with (first
        | (refine wpList_load_row rfl 66 _ rfl (w.heap.size + 2) rfl 66 (I64 xs).toArray (0, 0) _ g2 Tryd.underlying66 rfl (by simpa [hl] using infoE) ?_)
        | (refine wpList_store_row rfl 66 _ _ rfl (w.heap.size + 1) (I64 xs).toArray rfl rfl 66 _ g1 (by simpa [hl] using infoE) (by simp [hl]) (by simp [Value.oneCell']) ?_))
      exact bodyPost_ret (results_cell_row rfl _ _ (w.heap.size + 1) 66 (I64 xs).toArray (0, 0) _ rfl g1' Tryd.underlying66 rfl (by simpa [hl] using infoE)) rfl ⟨rfl, gB'⟩

/-- An answer that is a multiplier, in memory of its own. -/
def ScIs (w w' : World) (v : Value) (l : List Int) : Prop := ∃ a c, v = .agg #[.slice a l.length c] ∧ w'.ownsRow w.heap.size 3 1 (.slice a l.length c) l.length (I64 l)
theorem scIs_nil (w w' : World) : ScIs w w' (.agg #[.slice none 0 0]) [] := ⟨none, 0, rfl, World.ownsRow_nil _ _ _ _⟩
theorem scIs_16 {w w' : World} {a : Option Addr} {c : Nat} {l : List Int} (hl : l.length = 16) (h : w'.ownsRow w.heap.size 3 1 (.slice a 16 c) 16 (I64 l)) : ScIs w w' (.agg #[.slice a 16 c]) l := ⟨a, c, by rw [hl], by rw [hl]; exact h⟩

theorem infoSc : (Tryd.prog.info? 25).map (·.size) = some 1 := by kernel_rfl
end Go.Proofs.YtlafcjoccbinaaaDoor
namespace Go.Proofs.YtlafcjoccbinaaaDoor
open Go.RowKit
set_option maxRecDepth 100000

set_option maxHeartbeats 1000000 in
theorem specOrder (w : World) :
    Calls Tryd.prog 53 #[] w fun e w' => e = .returned (.agg (I64 OL).toArray) ∧ Below w.heap.size w w' := by
  obtain ⟨W, hW⟩ : ∃ W, W = w.alloc (.cells (I64 Z16).toArray 66) := ⟨_, rfl⟩
  have g0 : Arr (w.alloc (.cells #[.int .i64 0, .int .i64 0, .int .i64 0, .int .i64 0, .int .i64 0, .int .i64 0, .int .i64 0, .int .i64 0, .int .i64 0, .int .i64 0, .int .i64 0, .int .i64 0, .int .i64 0, .int .i64 0, .int .i64 0, .int .i64 0] 66)) w.heap.size 66 (I64 Z16) := Arr.new w (I64 Z16) _
  have gB : Below w.heap.size w (w.alloc (.cells #[.int .i64 0, .int .i64 0, .int .i64 0, .int .i64 0, .int .i64 0, .int .i64 0, .int .i64 0, .int .i64 0, .int .i64 0, .int .i64 0, .int .i64 0, .int .i64 0, .int .i64 0, .int .i64 0, .int .i64 0, .int .i64 0] 66)) := (Below.refl _ _).alloc (Nat.le_refl _) _
  have g1 := g0.row (I64 OL)
  have gB1 := setRow_below gB w.heap.size (I64 OL).toArray (Nat.le_refl _)
  go_enter Tryd.func53, Tryd.ntmps53
  go_wp2_with (refine wpList_store_row rfl 66 _ _ rfl w.heap.size (I64 OL).toArray rfl rfl 66 _ g0 infoE rfl (by simp [OL, Value.oneCell']) ?_)
  exact bodyPost_ret (results_cell_row rfl _ _ w.heap.size 66 (I64 OL).toArray (0, 0) _ rfl g1 Tryd.underlying66 rfl infoE) rfl ⟨rfl, gB1⟩
theorem scOk_no {xs : List Int} {k : Nat} (h : ¬ (0 ≤ xs.getD k 0 ∧ xs.getD k 0 < 65536)) : scOk xs = false := by
  cases e : scOk xs with
  | false => rfl
  | true =>
    have := ((scOk_iff xs).1 e).2.1
    exact absurd (gD_lm this k) h
/-- An array of sixteen, through whatever keeps what is there. -/
structure Ek5 (w W : World) (g : Nat) (l : List Int) : Prop where
  fr : Below w.heap.size w W
  ar : Arr W g 66 (I64 l)
theorem Ek5.go {w A B : World} {g : Nat} {l : List Int} (h : Ek5 w A g l) (hb : Below A.heap.size A B) : Ek5 w B g l := ⟨h.fr.trans (hb.mono h.fr.size), h.ar.kept hb⟩
theorem Ek5.all {w W : World} {g : Nat} {l : List Int} (h : Ek5 w W g l) : W.rangeAt g 0 (I64 l) := arr_range h.ar

set_option maxHeartbeats 2000000 in
theorem specScIsOk (a : Option Addr) (n c : Nat) (xs : List Int) (w : World) (hx : Is w a n c xs) :
    Calls Tryd.prog 44 #[.slice a n c] w fun e w' => e = .returned (.bool (scOk xs)) ∧ Below w.heap.size w w' := by
  obtain ⟨_, hl, hc, hr, hx⟩ := hx
  by_cases hn : n = 16
  rotate_left
  · have hf : scOk xs = false := by unfold scOk; simp [show ¬ xs.length = 16 by omega]
    rw [hf]
    have hn' : ((n : Int) != 16) = true := by simp; omega
    have hn'' : ¬ ((n : Int) = 16) := by omega
    clear hf hx hr
    go_enter Tryd.func44, Tryd.ntmps44
    go_wp2
    go_ret
    exact ⟨rfl, Below.refl _ _⟩
  subst hn
  rcases hx with hx | ⟨b, o, rfl, hbs, hcell⟩
  · omega
  obtain ⟨r, hrr⟩ : ∃ r, r = scOk xs := ⟨_, rfl⟩
  rw [← hrr]
  have HRR : Hid _ := hrr
  clear hrr
  obtain ⟨W, hW⟩ : ∃ W, W = w.alloc (.cells (I64 Z16).toArray 66) := ⟨_, rfl⟩
  have g0 : Arr W w.heap.size 66 (I64 (xs.take 0 ++ Z16.drop 0)) := by rw [hW]; exact Arr.new w (I64 Z16) _
  have gB : Below w.heap.size w W := by rw [hW]; exact (Below.refl _ _).alloc (Nat.le_refl _) _
  go_enter Tryd.func44, Tryd.ntmps44
  go_wp2
  go_loopw [4] (fun i wr => ∃ k : Nat, k ≤ 16 ∧ i = .int .i64 k ∧ (∀ j, j < k → 0 ≤ xs.getD j 0 ∧ xs.getD j 0 < 65536) ∧ Arr wr w.heap.size 66 (I64 (xs.take k ++ Z16.drop k)) ∧ Below w.heap.size w wr) (fun i _ => 16 - (intOf i).toNat)
  case atStart => exact ⟨0, by omega, rfl, fun j hj => by omega, hW ▸ g0, hW ▸ gB⟩
  case round =>
    clear g0 gB hW
    obtain ⟨k, hk, rfl, hin, g0, gB⟩ := hrel
    have hfl : (xs.take k).length = k := by simp; omega
    by_cases hlt : k < 16
    · obtain ⟨x, hx⟩ : ∃ x, x = xs.getD k 0 := ⟨_, rfl⟩
      have hck : wr.cell? ⟨b, o + k, none⟩ = some (.int .i64 x) := by rw [hx]; exact (gB.cell (p := ⟨b, o + k, none⟩) hbs).trans (hcell k hlt)
      have hk16 : (k : Int) < 16 := by omega
      have hk0 : (0 : Int) ≤ (k : Int) := by omega
      by_cases hgood : 0 ≤ x ∧ x < 65536
      · obtain ⟨hx0, hx1⟩ := hgood
        have hn0 : ¬ x < 0 := by omega
        have hn1 : ¬ (65535 : Int) < x := by omega
        obtain ⟨u, hu⟩ : ∃ u, wr.cell? ⟨w.heap.size, k, none⟩ = some u := by
          rw [g0.cell k]
          exact ⟨_, List.getElem?_eq_getElem (by simp [hl]; omega)⟩
        have hfz := g0.frozen k
        have hts := take_app xs k (by omega)
        have g0' := g0.set k (.int .i64 x)
        rw [set_app hfl (show k < Z16.length from hlt), hx, ← hts, ← hx] at g0'
        have gB' := gB.setCell (p := ⟨w.heap.size, k, none⟩) (Nat.le_refl _) (.int .i64 x)
        have hin' : ∀ j, j < k + 1 → 0 ≤ xs.getD j 0 ∧ xs.getD j 0 < 65536 := by
          intro j hj
          by_cases e : j = k
          · subst e; rw [← hx]; exact ⟨hx0, hx1⟩
          · exact hin j (by omega)
        have H0 : Hid _ := g0'
        have HB : Hid _ := gB'
        have HI : Hid _ := hin'
        clear g0' gB' hin' g0 gB hin hx hts hcell hr
        go_wp2
        go_roundw
        case rel => exact ⟨k + 1, by omega, by go_num, HI.out, H0.out, HB.out⟩
        case measure => simp [intOf]; omega
      · have hf : r = false := by rw [HRR.out]; exact scOk_no (k := k) (by rw [← hx]; exact hgood)
        clear hin hx hcell hr g0
        by_cases hx0 : x < 0
        · go_wp2
          go_ret
          exact ⟨by first | rfl | (rw [hf]; rfl), gB⟩
        · have hx1 : (65535 : Int) < x := by omega
          go_wp2
          go_ret
          exact ⟨by first | rfl | (rw [hf]; rfl), gB⟩
    · obtain rfl : k = 16 := by omega
      rw [List.take_of_length_le (by omega), show Z16.drop 16 = [] from rfl, List.append_nil] at g0
      have hm := lm_of hl hin
      have hrv : decide (val xs < qO) = r := by
        rw [HRR.out]
        by_cases hv : val xs < qO
        · rw [(scOk_iff xs).2 ⟨hl, hm, hv⟩]; simp [hv]
        · cases e : scOk xs with
          | false => simp [hv]
          | true => exact absurd ((scOk_iff xs).1 e).2.2 hv
      have HLS : Hid (∀ Z, Calls Tryd.prog 59 #[.agg (I64 xs).toArray, .agg (I64 OL).toArray] Z fun e w' => e = .returned (.bool r) ∧ Below Z.heap.size Z w') := by
        unfold Hid
        intro Z
        have := specLess xs OL Z hl OL_len hm OL_lm
        rw [OL_val, hrv] at this
        exact this
      have EK : Ek5 w wr.drew w.heap.size xs := ⟨gB.drew, g0.drew⟩
      have hu65 : Tryd.prog.underlying 66 = some (.array 16 3) := Tryd.underlying66
      have hi65 : (Tryd.prog.info? 66).map (·.size) = some (I64 xs).length := by simpa [hl] using infoE
      clear hin g0 gB hcell hr hfl hrv hm
      go_wp2
      go_region_held3 (fun W => W.rangeAt w.heap.size 0 (I64 xs))
        (exact EK.all)
        ((first
          | (go_at_call 59; refine (HLS.out _).mono ?_; rintro e w2 ⟨rfl, hb2⟩; replace EK := EK.go hb2)
          | (go_at_call 53; refine (specOrder _).mono ?_; rintro e w1 ⟨rfl, hb1⟩; replace EK := EK.go hb1)))
      go_wp2
      go_ret
      exact ⟨rfl, EK.fr⟩

set_option maxHeartbeats 1000000 in
theorem specScOk (a : Option Addr) (n c : Nat) (xs : List Int) (w : World) (hx : Is w a n c xs) :
    Calls Tryd.prog 14 #[.agg #[.slice a n c]] w fun e w' => e = .returned (.bool (scOk xs)) ∧ Below w.heap.size w w' := by
  obtain ⟨W, hW⟩ : ∃ W, W = w.alloc (.cells #[.slice a n c] 25) := ⟨_, rfl⟩
  have gB : Below w.heap.size w W := by rw [hW]; exact (Below.refl _ _).alloc (Nat.le_refl _) _
  go_enter Tryd.func14, Tryd.ntmps14
  go_wp2_with fail
  rw [← hW]
  refine (specScIsOk a n c xs _ (hx.below gB)).mono ?_
  rintro e w1 ⟨rfl, hb1⟩
  have hB := gB.trans (hb1.mono gB.size)
  clear hW gB hb1 hx
  go_wp2
  go_ret
  exact ⟨rfl, hB⟩
end Go.Proofs.YtlafcjoccbinaaaDoor
namespace Go.Proofs.YtlafcjoccbinaaaDoor
open Go.RowKit
set_option maxRecDepth 100000

set_option maxHeartbeats 4000000 in
theorem specTwice (a : List Int) (b : Int) (w : World) (ha : a.length = 16) (la : Lm a) (va : val a < qO) (hb0 : 0 ≤ b) (hb1 : b ≤ 1) :
    Calls Tryd.prog 83 #[.agg (I64 a).toArray, .int .i64 b] w fun e w' => e = .returned (.agg (I64 (redO (2 * val a + b))).toArray) ∧ Below w.heap.size w w' := by
  obtain ⟨zs, hzs⟩ : ∃ zs, zs = a.map (fun x => 2 * x) := ⟨_, rfl⟩
  have hzl : zs.length = 16 := by rw [hzs]; simp [ha]
  have hzd : Dp zs := by rw [hzs]; exact dp_map la
  have hzv : val zs + b = 2 * val a + b := by rw [hzs]; rw [map2_val]
  have hzx : ∀ k, k < 16 → zs.getD k 0 = 2 * a.getD k 0 := by
    intro k hk
    rw [hzs]
    simp [List.getD, show k < a.length by omega]
  obtain ⟨t, ht⟩ : ∃ t, t = 2 * val a + b := ⟨_, rfl⟩
  have n0 := val_nonneg (fun x hx => (la x hx).1)
  skip
  have ht0 : 0 ≤ t := by rw [ht]; omega
  have ht1 : t < 2 * qO := by rw [ht]; omega
  have hFe : cps zs b = lim 16 t := by rw [cps_lim, hzl, hzv, ht]
  have hFl : (cps zs b).length = 16 := by rw [cps_len, hzl]
  have hFm : Lm (cps zs b) := by rw [hFe]; exact lim_lm _ _
  have hFv : val (cps zs b) = t := by rw [hFe]; exact val_lim16 ht0 ht1
  have hless := lessO ht0 ht1
  rw [← ht]
  have HY : Hid (t < qO → cps zs b = redO t) := by unfold Hid; intro h; rw [hFe]; exact hless.1 h
  have HN : Hid (¬ t < qO → tk16 (cps zs b) OL = redO t) := by unfold Hid; intro h; rw [tk16_lim hFl OL_len, hFv, OL_val]; exact hless.2 h
  have HZX : Hid _ := hzx
  have HFV : Hid _ := hFv
  have HZD : Hid _ := hzd
  clear hzs hzv hzx ht ht0 ht1 hFe hFv hless n0 hzd
  obtain ⟨W, hW⟩ : ∃ W, W = (w.alloc (.cells (I64 a).toArray 66)).alloc (.cells #[.int .i64 0, .int .i64 0, .int .i64 0, .int .i64 0, .int .i64 0, .int .i64 0, .int .i64 0, .int .i64 0, .int .i64 0, .int .i64 0, .int .i64 0, .int .i64 0, .int .i64 0, .int .i64 0, .int .i64 0, .int .i64 0] 66) := ⟨_, rfl⟩
  have h0 : Arr W w.heap.size 66 (I64 (cps (zs.take 0) b ++ a.drop 0)) := by rw [hW]; exact (Arr.new w (I64 a) _).alloc _
  have h2 : Arr W (w.heap.size + 1) 66 (I64 Z16) := by
    rw [hW]
    have := Arr.new (w.alloc (.cells (I64 a).toArray 66)) (I64 Z16) 66
    rw [World.size_alloc] at this
    exact this
  have hBl : Below w.heap.size w W := by rw [hW]; exact ((Below.refl _ _).alloc (Nat.le_refl _) _).alloc (by simp) _
  obtain ⟨A, hA⟩ : ∃ A, A = (I64 a).toArray := ⟨_, rfl⟩
  rw [← hA] at hW ⊢
  have HA : Hid _ := hA
  clear hA
  go_enter Tryd.func83, Tryd.ntmps83
  go_wp2
  rw [← hW]
  clear hW
  go_loopw [5, 6] (fun c i wr => ∃ (k : Nat) (d : Int), k ≤ 16 ∧ c = .int .i64 d ∧ d = cpc (zs.take k) b ∧ i = .int .i64 k ∧ Arr wr w.heap.size 66 (I64 (cps (zs.take k) b ++ a.drop k)) ∧ Arr wr (w.heap.size + 1) 66 (I64 Z16) ∧ Below w.heap.size w wr) (fun _ i _ => 16 - (intOf i).toNat)
  case atStart => exact ⟨0, b, by omega, rfl, by simp [cpc], rfl, h0, h2, hBl⟩
  case round =>
    clear h0 h2 hBl
    obtain ⟨k, d, hk, rfl, hd, rfl, h0, h2, hBl⟩ := hrel
    have hfl : (cps (zs.take k) b).length = k := by rw [cps_len]; simp; omega
    have hdb := cpc_one (l := zs.take k) (fun x hx => HZD.out x (List.mem_of_mem_take hx)) (c := b) hb0 hb1
    rw [← hd] at hdb
    by_cases hlt : k < 16
    · obtain ⟨x, hx⟩ : ∃ x, x = a.getD k 0 := ⟨_, rfl⟩
      have cx : wr.cell? ⟨w.heap.size, k, none⟩ = some (.int .i64 x) := by
        rw [h0.i64 k (by rw [len_app hfl (by omega)]; omega), get_app hfl, hx]
      have bx := gD_lm la k
      rw [← hx] at bx
      have hz := HZX.out k hlt
      rw [← hx] at hz
      have hts := take_app zs k (by omega)
      rw [hz] at hts
      have hs1 : cps (zs.take (k + 1)) b = cps (zs.take k) b ++ [(2 * x + d) % 65536] := by rw [hts, cps_snoc, hd]
      have hs2 : cpc (zs.take (k + 1)) b = (2 * x + d) / 65536 := by rw [hts, cpc_snoc, hd]
      have hk16 : (k : Int) < 16 := by omega
      have hk0 : (0 : Int) ≤ (k : Int) := by omega
      have hfz := h0.frozen k
      have h0' := h0.set k (.int .i64 ((2 * x + d) % 65536))
      rw [set_app hfl (show k < a.length by omega), ← hs1] at h0'
      have h2' := h2.other ⟨w.heap.size, k, none⟩ (.int .i64 ((2 * x + d) % 65536)) (by simp)
      have hb' := hBl.setCell (p := ⟨w.heap.size, k, none⟩) (Nat.le_refl _) (.int .i64 ((2 * x + d) % 65536))
      have s0 : IntKind.i64.wrap (2 * x) = 2 * x := by rw [IntKind.wrap_i64]; omega
      have s1 : IntKind.i64.wrap (2 * x + d) = 2 * x + d := by rw [IntKind.wrap_i64]; omega
      have s2 : bits .and .i64 (2 * x + d) 65535 = (2 * x + d) % 65536 := i64_low16 (by omega) (by omega)
      have H0 : Hid _ := h0'
      have H2 : Hid _ := h2'
      have HB : Hid _ := hb'
      have HC : Hid _ := hs2
      clear h0' h2' hb' h0 h2 hBl hx hd hz hts hs1 hs2
      go_wp2
      go_roundw
      case rel => exact ⟨k + 1, (2 * x + d) / 65536, by omega, rfl, HC.out.symm, by go_num, H0.out, H2.out, HB.out⟩
      case measure => simp [intOf]; omega
    · obtain rfl : k = 16 := by omega
      rw [List.take_of_length_le (by omega), List.drop_eq_nil_of_le (by omega), List.append_nil] at h0
      obtain ⟨F, hF⟩ : ∃ F, F = cps zs b := ⟨_, rfl⟩
      rw [← hF] at h0 hFl hFm HY HN HFV
      clear hF hd hdb hfl
      go_wp2_with fail
      refine (specOrder _).mono ?_
      rintro e w1 ⟨rfl, hb1⟩
      have hB1 := hBl.trans (hb1.mono hBl.size)
      have h01 := h0.kept hb1
      have h21 := h2.kept hb1
      have hsz1 := h21.lt
      clear h0 h2 hBl hb1
      obtain ⟨W2, hW2⟩ : ∃ W2, W2 = (w1.alloc (.cells #[.int .i64 0, .int .i64 0, .int .i64 0, .int .i64 0, .int .i64 0, .int .i64 0, .int .i64 0, .int .i64 0, .int .i64 0, .int .i64 0, .int .i64 0, .int .i64 0, .int .i64 0, .int .i64 0, .int .i64 0, .int .i64 0] 66)).setRow w1.heap.size (I64 OL).toArray := ⟨_, rfl⟩
      have hz1 : Arr (w1.alloc (.cells #[.int .i64 0, .int .i64 0, .int .i64 0, .int .i64 0, .int .i64 0, .int .i64 0, .int .i64 0, .int .i64 0, .int .i64 0, .int .i64 0, .int .i64 0, .int .i64 0, .int .i64 0, .int .i64 0, .int .i64 0, .int .i64 0] 66)) w1.heap.size 66 (I64 Z16) := Arr.new w1 (I64 Z16) _
      have hp2 : Arr W2 w1.heap.size 66 (I64 OL) := by rw [hW2]; exact hz1.row (I64 OL)
      have h02 : Arr W2 w.heap.size 66 (I64 F) := by rw [hW2]; exact (h01.alloc _).rowOther _ _ (by omega)
      have h22 : Arr W2 (w.heap.size + 1) 66 (I64 Z16) := by rw [hW2]; exact (h21.alloc _).rowOther _ _ (by omega)
      have hB2 : Below w.heap.size w W2 := by rw [hW2]; exact setRow_below (hB1.alloc hB1.size _) _ _ hB1.size
      have hiF : (Tryd.prog.info? 66).map (·.size) = some (I64 F).toArray.size := by simpa [hFl] using infoE
      have h02' := hW2 ▸ h02
      have hp2' := hW2 ▸ hp2
      have HW2 : Hid _ := hW2
      clear h01 h21 hB1 hW2
      go_wp2_with (first
        | (refine wpList_store_row rfl 66 _ _ rfl w1.heap.size (I64 OL).toArray rfl rfl 66 (I64 Z16).toArray hz1 infoE rfl (by simp [OL, Value.oneCell']) ?_)
        | (refine wpList_load_row rfl 66 _ rfl w.heap.size rfl 66 (I64 F).toArray (0, 0) _ h02' Tryd.underlying66 rfl hiF ?_)
        | (refine wpList_load_row rfl 66 _ rfl w1.heap.size rfl 66 (I64 OL).toArray (0, 0) _ hp2' Tryd.underlying66 rfl infoE ?_))
      rw [← HW2.out]
      clear HW2 h02' hp2' hz1
      refine (specLess F OL _ hFl OL_len hFm OL_lm).mono ?_
      rintro e w3 ⟨rfl, hb3⟩
      have h03 := h02.kept hb3
      have h23 := h22.kept hb3
      have hp3 := hp2.kept hb3
      have hB3 := hB2.trans (hb3.mono hB2.size)
      rw [OL_val, HFV.out]
      clear h02 h22 hp2 hB2 hb3
      by_cases hlp : t < qO
      · have hd : decide (t < qO) = true := by simp [hlp]
        rw [hd]
        have hFR := HY.out hlp
        have h23' := h23.row (I64 F)
        have hb' := setRow_below hB3 (w.heap.size + 1) (I64 F).toArray (by omega)
        clear hd hlp
        go_wp2_with (first
          | (refine wpList_load_row rfl 66 _ rfl w.heap.size rfl 66 (I64 F).toArray (0, 0) _ h03 Tryd.underlying66 rfl hiF ?_)
          | (refine wpList_store_row rfl 66 _ _ rfl (w.heap.size + 1) (I64 F).toArray rfl rfl 66 _ h23 hiF (by simp [hFl]) (by simp [Value.oneCell']) ?_))
        exact bodyPost_ret (results_cell_row rfl _ _ (w.heap.size + 1) 66 (I64 F).toArray (0, 0) _ rfl h23' Tryd.underlying66 rfl hiF) rfl ⟨by rw [← hFR], hb'⟩
      · have hd : decide (t < qO) = false := by simp [hlp]
        rw [hd]
        have hGR := HN.out (by omega)
        clear hd hlp
        go_wp2_with (first
          | (refine wpList_load_row rfl 66 _ rfl w.heap.size rfl 66 (I64 F).toArray (0, 0) _ h03 Tryd.underlying66 rfl hiF ?_)
          | (refine wpList_load_row rfl 66 _ rfl w1.heap.size rfl 66 (I64 OL).toArray (0, 0) _ hp3 Tryd.underlying66 rfl infoE ?_))
        refine (specTake F OL _ hFl OL_len hFm OL_lm).mono ?_
        rintro e w4 ⟨rfl, hb4⟩
        have h04 := h03.kept hb4
        have h24 := h23.kept hb4
        have hB4 := hB3.trans (hb4.mono hB3.size)
        have hGl : (tk16 F OL).length = 16 := by rw [tk16_lim hFl OL_len, lim_len]
        obtain ⟨G, hG⟩ : ∃ G, G = tk16 F OL := ⟨_, rfl⟩
        rw [← hG] at hGl hGR ⊢
        have hiG : (Tryd.prog.info? 66).map (·.size) = some (I64 G).toArray.size := by simpa [hGl] using infoE
        have HGR : Hid _ := hGR
        clear hGR h03 h23 hp3 hB3 hb4 hG
        have h05 := h04.row (I64 G)
        have h25 := h24.rowOther w.heap.size (I64 G).toArray (by omega)
        have hB5 := setRow_below hB4 w.heap.size (I64 G).toArray (Nat.le_refl _)
        have h26 := h25.row (I64 G)
        have hb' := setRow_below hB5 (w.heap.size + 1) (I64 G).toArray (by omega)
        go_wp2_with (first
          | (refine wpList_store_row rfl 66 _ _ rfl w.heap.size (I64 G).toArray rfl rfl 66 _ h04 hiG (by simp [hGl, hFl]) (by simp [Value.oneCell']) ?_)
          | (refine wpList_load_row rfl 66 _ rfl w.heap.size rfl 66 (I64 G).toArray (0, 0) _ h05 Tryd.underlying66 rfl hiG ?_)
          | (refine wpList_store_row rfl 66 _ _ rfl (w.heap.size + 1) (I64 G).toArray rfl rfl 66 _ h25 hiG (by simp [hGl]) (by simp [Value.oneCell']) ?_))
        exact bodyPost_ret (results_cell_row rfl _ _ (w.heap.size + 1) 66 (I64 G).toArray (0, 0) _ rfl h26 Tryd.underlying66 rfl hiG) rfl ⟨by rw [← HGR.out], hb'⟩

set_option maxHeartbeats 4000000 in
theorem specScAdd16 (a b : List Int) (w : World) (ha : a.length = 16) (hb : b.length = 16) (la : Lm a) (lb : Lm b) (va : val a < qO) (vb : val b < qO) :
    Calls Tryd.prog 65 #[.agg (I64 a).toArray, .agg (I64 b).toArray] w fun e w' => e = .returned (.agg (I64 (redO (val a + val b))).toArray) ∧ Below w.heap.size w w' := by
  obtain ⟨zs, hzs⟩ : ∃ zs, zs = List.zipWith (fun x y => x + y) a b := ⟨_, rfl⟩
  have hzl : zs.length = 16 := by rw [hzs]; simp [ha, hb]
  have hzd : Dp zs := by rw [hzs]; exact dp_zip la lb
  have hzv : val zs + 0 = val a + val b := by rw [hzs]; rw [zipAdd_val a b (by omega)]; omega
  have hzx : ∀ k, k < 16 → zs.getD k 0 = a.getD k 0 + b.getD k 0 := by
    intro k hk
    rw [hzs]
    simp [List.getD, List.getElem?_zipWith, show k < a.length by omega, show k < b.length by omega]
  obtain ⟨t, ht⟩ : ∃ t, t = val a + val b := ⟨_, rfl⟩
  have n0 := val_nonneg (fun x hx => (la x hx).1)
  have n1 := val_nonneg (fun x hx => (lb x hx).1)
  have ht0 : 0 ≤ t := by rw [ht]; omega
  have ht1 : t < 2 * qO := by rw [ht]; omega
  have hFe : cps zs 0 = lim 16 t := by rw [cps_lim, hzl, hzv, ht]
  have hFl : (cps zs 0).length = 16 := by rw [cps_len, hzl]
  have hFm : Lm (cps zs 0) := by rw [hFe]; exact lim_lm _ _
  have hFv : val (cps zs 0) = t := by rw [hFe]; exact val_lim16 ht0 ht1
  have hless := lessO ht0 ht1
  rw [← ht]
  have HY : Hid (t < qO → cps zs 0 = redO t) := by unfold Hid; intro h; rw [hFe]; exact hless.1 h
  have HN : Hid (¬ t < qO → tk16 (cps zs 0) OL = redO t) := by unfold Hid; intro h; rw [tk16_lim hFl OL_len, hFv, OL_val]; exact hless.2 h
  have HZX : Hid _ := hzx
  have HFV : Hid _ := hFv
  have HZD : Hid _ := hzd
  clear hzs hzv hzx ht ht0 ht1 hFe hFv hless n0 hzd n1
  obtain ⟨W, hW⟩ : ∃ W, W = ((w.alloc (.cells (I64 a).toArray 66)).alloc (.cells (I64 b).toArray 66)).alloc (.cells #[.int .i64 0, .int .i64 0, .int .i64 0, .int .i64 0, .int .i64 0, .int .i64 0, .int .i64 0, .int .i64 0, .int .i64 0, .int .i64 0, .int .i64 0, .int .i64 0, .int .i64 0, .int .i64 0, .int .i64 0, .int .i64 0] 66) := ⟨_, rfl⟩
  have h0 : Arr W w.heap.size 66 (I64 (cps (zs.take 0) 0 ++ a.drop 0)) := by rw [hW]; exact ((Arr.new w (I64 a) _).alloc _).alloc _
  have h1 : Arr W (w.heap.size + 1) 66 (I64 b) := by
    rw [hW]
    have := (Arr.new (w.alloc (.cells (I64 a).toArray 66)) (I64 b) 66).alloc (.cells (I64 Z16).toArray 66)
    rw [World.size_alloc] at this
    exact this
  have h2 : Arr W (w.heap.size + 2) 66 (I64 Z16) := by
    rw [hW]
    have := Arr.new ((w.alloc (.cells (I64 a).toArray 66)).alloc (.cells (I64 b).toArray 66)) (I64 Z16) 66
    rw [World.size_alloc, World.size_alloc] at this
    exact this
  have hBl : Below w.heap.size w W := by rw [hW]; exact (((Below.refl _ _).alloc (Nat.le_refl _) _).alloc (by simp) _).alloc (by simp; omega) _
  obtain ⟨A, hA⟩ : ∃ A, A = (I64 a).toArray := ⟨_, rfl⟩
  obtain ⟨Bv, hBv⟩ : ∃ B, B = (I64 b).toArray := ⟨_, rfl⟩
  rw [← hA, ← hBv] at hW ⊢
  have HA : Hid _ := hA
  clear hA hBv
  go_enter Tryd.func65, Tryd.ntmps65
  go_wp2
  rw [← hW]
  clear hW
  go_loopw [5, 6] (fun c i wr => ∃ (k : Nat) (d : Int), k ≤ 16 ∧ c = .int .i64 d ∧ d = cpc (zs.take k) 0 ∧ i = .int .i64 k ∧ Arr wr w.heap.size 66 (I64 (cps (zs.take k) 0 ++ a.drop k)) ∧ Arr wr (w.heap.size + 1) 66 (I64 b) ∧ Arr wr (w.heap.size + 2) 66 (I64 Z16) ∧ Below w.heap.size w wr) (fun _ i _ => 16 - (intOf i).toNat)
  case atStart => exact ⟨0, 0, by omega, rfl, by simp [cpc], rfl, h0, h1, h2, hBl⟩
  case round =>
    clear h0 h1 h2 hBl
    obtain ⟨k, d, hk, rfl, hd, rfl, h0, h1, h2, hBl⟩ := hrel
    have hfl : (cps (zs.take k) 0).length = k := by rw [cps_len]; simp; omega
    have hdb := cpc_one (l := zs.take k) (fun x hx => HZD.out x (List.mem_of_mem_take hx)) (c := 0) (by omega) (by omega)
    rw [← hd] at hdb
    by_cases hlt : k < 16
    · obtain ⟨x, hx⟩ : ∃ x, x = a.getD k 0 := ⟨_, rfl⟩
      have cx : wr.cell? ⟨w.heap.size, k, none⟩ = some (.int .i64 x) := by
        rw [h0.i64 k (by rw [len_app hfl (by omega)]; omega), get_app hfl, hx]
      have bx := gD_lm la k
      rw [← hx] at bx
      obtain ⟨y, hy⟩ : ∃ y, y = b.getD k 0 := ⟨_, rfl⟩
      have cy : wr.cell? ⟨w.heap.size + 1, k, none⟩ = some (.int .i64 y) := by rw [hy]; exact h1.i64 k (by omega)
      have by' := gD_lm lb k
      rw [← hy] at by'
      have hz := HZX.out k hlt
      rw [← hx, ← hy] at hz
      have hts := take_app zs k (by omega)
      rw [hz] at hts
      have hs1 : cps (zs.take (k + 1)) 0 = cps (zs.take k) 0 ++ [(x + y + d) % 65536] := by rw [hts, cps_snoc, hd]
      have hs2 : cpc (zs.take (k + 1)) 0 = (x + y + d) / 65536 := by rw [hts, cpc_snoc, hd]
      have hk16 : (k : Int) < 16 := by omega
      have hk0 : (0 : Int) ≤ (k : Int) := by omega
      have hfz := h0.frozen k
      have h0' := h0.set k (.int .i64 ((x + y + d) % 65536))
      rw [set_app hfl (show k < a.length by omega), ← hs1] at h0'
      have h1' := h1.other ⟨w.heap.size, k, none⟩ (.int .i64 ((x + y + d) % 65536)) (by simp)
      have h2' := h2.other ⟨w.heap.size, k, none⟩ (.int .i64 ((x + y + d) % 65536)) (by simp)
      have hb' := hBl.setCell (p := ⟨w.heap.size, k, none⟩) (Nat.le_refl _) (.int .i64 ((x + y + d) % 65536))
      have s0 : IntKind.i64.wrap (x + y) = x + y := by rw [IntKind.wrap_i64]; omega
      have s1 : IntKind.i64.wrap (x + y + d) = x + y + d := by rw [IntKind.wrap_i64]; omega
      have s2 : bits .and .i64 (x + y + d) 65535 = (x + y + d) % 65536 := i64_low16 (by omega) (by omega)
      have H0 : Hid _ := h0'
      have H1 : Hid _ := h1'
      clear h1' h1
      have H2 : Hid _ := h2'
      have HB : Hid _ := hb'
      have HC : Hid _ := hs2
      clear h0' h2' hb' h0 h2 hBl hx hd hz hts hs1 hs2 hy
      go_wp2
      go_quiet (fail)
      rename_i nq
      go_wp2
      go_roundw
      case rel => exact ⟨k + 1, (x + y + d) / 65536, by omega, rfl, HC.out.symm, by go_num, Arr.drewN H0.out _, Arr.drewN H1.out _, Arr.drewN H2.out _, bel_dN HB.out _⟩
      case measure => simp [intOf]; omega
    · obtain rfl : k = 16 := by omega
      rw [List.take_of_length_le (by omega), List.drop_eq_nil_of_le (by omega), List.append_nil] at h0
      obtain ⟨F, hF⟩ : ∃ F, F = cps zs 0 := ⟨_, rfl⟩
      rw [← hF] at h0 hFl hFm HY HN HFV
      clear hF hd hdb hfl h1
      go_wp2_with fail
      refine (specOrder _).mono ?_
      rintro e w1 ⟨rfl, hb1⟩
      have hB1 := hBl.trans (hb1.mono hBl.size)
      have h01 := h0.kept hb1
      have h21 := h2.kept hb1
      have hsz1 := h21.lt
      clear h0 h2 hBl hb1
      obtain ⟨W2, hW2⟩ : ∃ W2, W2 = (w1.alloc (.cells #[.int .i64 0, .int .i64 0, .int .i64 0, .int .i64 0, .int .i64 0, .int .i64 0, .int .i64 0, .int .i64 0, .int .i64 0, .int .i64 0, .int .i64 0, .int .i64 0, .int .i64 0, .int .i64 0, .int .i64 0, .int .i64 0] 66)).setRow w1.heap.size (I64 OL).toArray := ⟨_, rfl⟩
      have hz1 : Arr (w1.alloc (.cells #[.int .i64 0, .int .i64 0, .int .i64 0, .int .i64 0, .int .i64 0, .int .i64 0, .int .i64 0, .int .i64 0, .int .i64 0, .int .i64 0, .int .i64 0, .int .i64 0, .int .i64 0, .int .i64 0, .int .i64 0, .int .i64 0] 66)) w1.heap.size 66 (I64 Z16) := Arr.new w1 (I64 Z16) _
      have hp2 : Arr W2 w1.heap.size 66 (I64 OL) := by rw [hW2]; exact hz1.row (I64 OL)
      have h02 : Arr W2 w.heap.size 66 (I64 F) := by rw [hW2]; exact (h01.alloc _).rowOther _ _ (by omega)
      have h22 : Arr W2 (w.heap.size + 2) 66 (I64 Z16) := by rw [hW2]; exact (h21.alloc _).rowOther _ _ (by omega)
      have hB2 : Below w.heap.size w W2 := by rw [hW2]; exact setRow_below (hB1.alloc hB1.size _) _ _ hB1.size
      have hiF : (Tryd.prog.info? 66).map (·.size) = some (I64 F).toArray.size := by simpa [hFl] using infoE
      have h02' := hW2 ▸ h02
      have hp2' := hW2 ▸ hp2
      have HW2 : Hid _ := hW2
      clear h01 h21 hB1 hW2
      go_wp2_with (first
        | (refine wpList_store_row rfl 66 _ _ rfl w1.heap.size (I64 OL).toArray rfl rfl 66 (I64 Z16).toArray hz1 infoE rfl (by simp [OL, Value.oneCell']) ?_)
        | (refine wpList_load_row rfl 66 _ rfl w.heap.size rfl 66 (I64 F).toArray (0, 0) _ h02' Tryd.underlying66 rfl hiF ?_)
        | (refine wpList_load_row rfl 66 _ rfl w1.heap.size rfl 66 (I64 OL).toArray (0, 0) _ hp2' Tryd.underlying66 rfl infoE ?_))
      rw [← HW2.out]
      clear HW2 h02' hp2' hz1
      refine (specLess F OL _ hFl OL_len hFm OL_lm).mono ?_
      rintro e w3 ⟨rfl, hb3⟩
      have h03 := h02.kept hb3
      have h23 := h22.kept hb3
      have hp3 := hp2.kept hb3
      have hB3 := hB2.trans (hb3.mono hB2.size)
      rw [OL_val, HFV.out]
      clear h02 h22 hp2 hB2 hb3
      by_cases hlp : t < qO
      · have hd : decide (t < qO) = true := by simp [hlp]
        rw [hd]
        have hFR := HY.out hlp
        have h23' := h23.row (I64 F)
        have hb' := setRow_below hB3 (w.heap.size + 2) (I64 F).toArray (by omega)
        clear hd hlp
        go_wp2_with (first
          | (refine wpList_load_row rfl 66 _ rfl w.heap.size rfl 66 (I64 F).toArray (0, 0) _ h03 Tryd.underlying66 rfl hiF ?_)
          | (refine wpList_store_row rfl 66 _ _ rfl (w.heap.size + 2) (I64 F).toArray rfl rfl 66 _ h23 hiF (by simp [hFl]) (by simp [Value.oneCell']) ?_))
        exact bodyPost_ret (results_cell_row rfl _ _ (w.heap.size + 2) 66 (I64 F).toArray (0, 0) _ rfl h23' Tryd.underlying66 rfl hiF) rfl ⟨by rw [← hFR], hb'⟩
      · have hd : decide (t < qO) = false := by simp [hlp]
        rw [hd]
        have hGR := HN.out (by omega)
        clear hd hlp
        go_wp2_with (first
          | (refine wpList_load_row rfl 66 _ rfl w.heap.size rfl 66 (I64 F).toArray (0, 0) _ h03 Tryd.underlying66 rfl hiF ?_)
          | (refine wpList_load_row rfl 66 _ rfl w1.heap.size rfl 66 (I64 OL).toArray (0, 0) _ hp3 Tryd.underlying66 rfl infoE ?_))
        refine (specTake F OL _ hFl OL_len hFm OL_lm).mono ?_
        rintro e w4 ⟨rfl, hb4⟩
        have h04 := h03.kept hb4
        have h24 := h23.kept hb4
        have hB4 := hB3.trans (hb4.mono hB3.size)
        have hGl : (tk16 F OL).length = 16 := by rw [tk16_lim hFl OL_len, lim_len]
        obtain ⟨G, hG⟩ : ∃ G, G = tk16 F OL := ⟨_, rfl⟩
        rw [← hG] at hGl hGR ⊢
        have hiG : (Tryd.prog.info? 66).map (·.size) = some (I64 G).toArray.size := by simpa [hGl] using infoE
        have HGR : Hid _ := hGR
        clear hGR h03 h23 hp3 hB3 hb4 hG
        have h05 := h04.row (I64 G)
        have h25 := h24.rowOther w.heap.size (I64 G).toArray (by omega)
        have hB5 := setRow_below hB4 w.heap.size (I64 G).toArray (Nat.le_refl _)
        have h26 := h25.row (I64 G)
        have hb' := setRow_below hB5 (w.heap.size + 2) (I64 G).toArray (by omega)
        go_wp2_with (first
          | (refine wpList_store_row rfl 66 _ _ rfl w.heap.size (I64 G).toArray rfl rfl 66 _ h04 hiG (by simp [hGl, hFl]) (by simp [Value.oneCell']) ?_)
          | (refine wpList_load_row rfl 66 _ rfl w.heap.size rfl 66 (I64 G).toArray (0, 0) _ h05 Tryd.underlying66 rfl hiG ?_)
          | (refine wpList_store_row rfl 66 _ _ rfl (w.heap.size + 2) (I64 G).toArray rfl rfl 66 _ h25 hiG (by simp [hGl]) (by simp [Value.oneCell']) ?_))
        exact bodyPost_ret (results_cell_row rfl _ _ (w.heap.size + 2) 66 (I64 G).toArray (0, 0) _ rfl h26 Tryd.underlying66 rfl hiG) rfl ⟨by rw [← HGR.out], hb'⟩
end Go.Proofs.YtlafcjoccbinaaaDoor
namespace Go.Proofs.YtlafcjoccbinaaaDoor
open Go.RowKit
set_option maxRecDepth 100000

theorem i64_bit1 {x : Int} (h0 : 0 ≤ x) (h1 : x < 9223372036854775808) : bits .and .i64 x 1 = x % 2 :=
  bits_mask .i64 63 (by decide) (fun n a b => by rw [IntKind.wrap_i64]; omega) 1 (by decide) x h0 h1
/-- The cells of l5mod: the result's, and the number so far; the slice is older. -/
structure MP (w W : World) (r : List Int) : Prop where
  fr : Below w.heap.size w W
  pz : Arr W w.heap.size 66 (I64 Z16)
  pr : Arr W (w.heap.size + 1) 66 (I64 r)
theorem MP.go {w A B : World} {r : List Int} (h : MP w A r) (hb : Below A.heap.size A B) : MP w B r := ⟨h.fr.trans (hb.mono h.fr.size), h.pz.kept hb, h.pr.kept hb⟩
theorem MP.put {w W : World} {r : List Int} (h : MP w W r) (s : List Int) (hl : (I64 r).length = (I64 s).length) : MP w (W.setCells (w.heap.size + 1) 0 (I64 s)) s :=
  ⟨setCells_below (by omega) _ _ h.fr, Arr.setCellsO (by omega) _ _ h.pz, Arr.setCells0 h.pr hl⟩
theorem one_e (l : List Int) : ∀ v ∈ I64 l, v.oneCell' = true := by
  intro v hv
  obtain ⟨x, _, rfl⟩ := List.mem_map.1 hv
  rfl

set_option maxHeartbeats 4000000 in
theorem specMod (a : Option Addr) (n c : Nat) (xs : List Int) (w : World) (hx : Is w a n c xs) (hm : Lm xs) (hn : n ≤ 33) :
    Calls Tryd.prog 78 #[.slice a n c] w fun e w' => e = .returned (.agg (I64 (redO (val xs))).toArray) ∧ Below w.heap.size w w' := by
  have hl := hx.2.1
  have hbit := fun j hj => bitO hl hm j hj
  have h0 := val_nonneg (fun x hx => (hm x hx).1)
  obtain ⟨N, hN⟩ := Int.eq_ofNat_of_zero_le h0
  have hNb : N < 2 ^ (16 * n) := by
    have h1 := val_lt hm
    rw [hl, hN] at h1
    have e : (2 : Nat) ^ (16 * n) = 65536 ^ n := by rw [Nat.pow_mul]
    rw [e]
    have e2 : ((65536 : Int)) ^ n = ((65536 ^ n : Nat) : Int) := by rw [Int.natCast_pow]; rfl
    rw [e2] at h1
    exact Int.ofNat_lt.1 h1
  rw [hN, Int.toNat_natCast] at hbit
  obtain ⟨F, hF⟩ : ∃ F : Nat → List Int, ∀ m, F m = redO ((N / 2 ^ m : Nat) : Int) := ⟨fun m => redO ((N / 2 ^ m : Nat) : Int), fun _ => rfl⟩
  have HL : Hid (∀ m, (F m).length = 16 ∧ Lm (F m) ∧ val (F m) < qO) := by unfold Hid; intro m; rw [hF]; exact (scOk_iff _).1 (redO_ok _)
  have HE : Hid (Z16 = F (16 * n)) := by unfold Hid; rw [hF, Nat.div_eq_of_lt hNb]; decide
  have HS : Hid (∀ j, j < 16 * n → redO (2 * val (F (j + 1)) + xs.getD (j / 16) 0 / 2 ^ (j % 16) % 2) = F j) := by
    unfold Hid; intro j hj; rw [hbit j hj, hF, hF]; exact redO_twice N j
  have hres : redO (val xs) = F 0 := by rw [hN, hF, Nat.pow_zero, Nat.div_one]
  rw [hres]
  have HX := fun k (hk : k < n) => gD_lm hm k
  clear hres hF hbit hN hNb h0
  obtain ⟨W, hW⟩ : ∃ W, W = (w.alloc (.cells #[.int .i64 0, .int .i64 0, .int .i64 0, .int .i64 0, .int .i64 0, .int .i64 0, .int .i64 0, .int .i64 0, .int .i64 0, .int .i64 0, .int .i64 0, .int .i64 0, .int .i64 0, .int .i64 0, .int .i64 0, .int .i64 0] 66)).alloc (.cells #[.int .i64 0, .int .i64 0, .int .i64 0, .int .i64 0, .int .i64 0, .int .i64 0, .int .i64 0, .int .i64 0, .int .i64 0, .int .i64 0, .int .i64 0, .int .i64 0, .int .i64 0, .int .i64 0, .int .i64 0, .int .i64 0] 66) := ⟨_, rfl⟩
  have EE : MP w W Z16 := by
    rw [hW]
    refine ⟨((Below.refl _ _).alloc (Nat.le_refl _) _).alloc (by simp) _, (Arr.new w (I64 Z16) _).alloc _, ?_⟩
    have := Arr.new (w.alloc (.cells (I64 Z16).toArray 66)) (I64 Z16) 66
    rw [World.size_alloc] at this
    exact this
  rw [HE.out] at EE
  have s1 : IntKind.i64.wrap (16 * (n : Int)) = 16 * (n : Int) := by rw [IntKind.wrap_i64]; omega
  have s2 : IntKind.i64.wrap (16 * (n : Int) - 1) = 16 * (n : Int) - 1 := by rw [IntKind.wrap_i64]; omega
  have hu : Tryd.prog.underlying 66 = some (.array 16 3) := Tryd.underlying66
  clear HE
  go_enter Tryd.func78, Tryd.ntmps78
  go_wp2
  rw [← hW]
  clear hW
  go_loopw [4] (fun i wr => ∃ (m : Nat) (z : Int), m ≤ 16 * n ∧ z = (m : Int) - 1 ∧ i = .int .i64 z ∧ MP w wr (F m)) (fun i _ => (intOf i + 1).toNat)
  case atStart => exact ⟨16 * n, 16 * (n : Int) - 1, by omega, by omega, rfl, EE⟩
  case round =>
    clear EE s1 s2
    obtain ⟨m, z, hmn, hz, rfl, EE⟩ := hrel
    obtain ⟨R, hR⟩ : ∃ R, R = F m := ⟨_, rfl⟩
    rw [← hR] at EE
    have hRl : R.length = 16 := by rw [hR]; exact (HL.out m).1
    have hRm : Lm R := by rw [hR]; exact (HL.out m).2.1
    have hRv : val R < qO := by rw [hR]; exact (HL.out m).2.2
    have hir : (Tryd.prog.info? 66).map (·.size) = some (I64 R).toArray.size := by simpa [hRl] using infoE
    have hirl : (Tryd.prog.info? 66).map (·.size) = some (I64 R).length := by simpa [hRl] using infoE
    have HR : Hid _ := hR
    clear hR
    by_cases hm0 : m = 0
    · have hz0 : z < 0 := by omega
      have hz1 : ¬ (0 ≤ z) := by omega
      have HRR : Hid (R = F 0) := by unfold Hid; rw [HR.out, hm0]
      have hpr := EE.pr
      have hpz := EE.pz
      have hp2 := hpz.row (I64 R)
      have hb2 := setRow_below EE.fr w.heap.size (I64 R).toArray (Nat.le_refl _)
      clear HR hz hm0 EE
      go_wp2_with (first
        | (refine wpList_load_row rfl 66 _ rfl (w.heap.size + 1) rfl 66 (I64 R).toArray (0, 0) _ hpr Tryd.underlying66 rfl hir ?_)
        | (refine wpList_store_row rfl 66 _ _ rfl w.heap.size (I64 R).toArray rfl rfl 66 _ hpz hir (by simp [hRl]) (by simp [Value.oneCell']) ?_))
      exact bodyPost_ret (results_cell_row rfl _ _ w.heap.size 66 (I64 R).toArray (0, 0) _ rfl hp2 Tryd.underlying66 rfl hir) rfl ⟨by rw [HRR.out], hb2⟩
    · obtain ⟨j, rfl⟩ : ∃ j, m = j + 1 := ⟨m - 1, by omega⟩
      obtain rfl : z = (j : Int) := by omega
      clear hz hm0
      obtain ⟨x, hxx⟩ : ∃ x, x = xs.getD (j / 16) 0 := ⟨_, rfl⟩
      have hxb := HX (j / 16) (by omega)
      rw [← hxx] at hxb
      have hj0 : (0 : Int) ≤ (j : Int) := by omega
      obtain ⟨q, hq⟩ : ∃ q, q = j / 16 := ⟨_, rfl⟩
      have hq1 : (j : Int) / 16 = (q : Int) := by omega
      have hq2 : (q : Int) < (n : Int) := by omega
      have hq3 : (0 : Int) ≤ (q : Int) := by omega
      have hy0 : 0 ≤ x / 2 ^ (j % 16) := Int.ediv_nonneg hxb.1 (Int.le_of_lt (Int.pow_pos (by omega)))
      have hy1 : x / 2 ^ (j % 16) ≤ x := Int.ediv_le_self _ hxb.1
      obtain ⟨b, hb⟩ : ∃ b, b = x / 2 ^ (j % 16) % 2 := ⟨_, rfl⟩
      have hand : bits .and .i64 (x / 2 ^ (j % 16)) 1 = b := by rw [hb]; exact i64_bit1 hy0 (by omega)
      have hbb : 0 ≤ b ∧ b ≤ 1 := by rw [hb]; omega
      have hT := HS.out j (by omega)
      rw [← HR.out, ← hxx, ← hb] at hT
      obtain ⟨T, hTT⟩ : ∃ T, T = F j := ⟨_, rfl⟩
      rw [← hTT] at hT
      have hTl : T.length = 16 := by rw [hTT]; exact (HL.out j).1
      have hit : (Tryd.prog.info? 66).map (·.size) = some (I64 T).toArray.size := by simpa [hTl] using infoE
      have HTW : Hid (∀ Z, Calls Tryd.prog 83 #[.agg (I64 R).toArray, .int .i64 b] Z fun e w' => e = .returned (.agg (I64 T).toArray) ∧ Below Z.heap.size Z w') := by
        unfold Hid; intro Z
        have := specTwice R b Z hRl hRm hRv hbb.1 hbb.2
        rw [hT] at this
        exact this
      have HTT : Hid _ := hTT
      obtain ⟨_, _, hcn, _, hcc⟩ := hx
      rcases hcc with hcc | ⟨B, o, rfl, hBs, hcell⟩
      · omega
      have HCE : Hid (∀ V, Below w.heap.size w V → V.cell? ⟨B, o + q, none⟩ = some (.int .i64 x)) := by
        unfold Hid; intro V hV; rw [hxx, hq]; exact (hV.cell (p := ⟨B, o + j / 16, none⟩) hBs).trans (hcell (j / 16) (by omega))
      have hone := one_e T
      obtain ⟨y, hy⟩ : ∃ y, y = x / 2 ^ (j % 16) := ⟨_, rfl⟩
      have hwq : IntKind.i64.wrap (q : Int) = (q : Int) := by rw [IntKind.wrap_i64]; omega
      have hrem : (j : Int).tmod 16 = (j : Int) % 16 := Int.tmod_eq_emod_of_nonneg hj0
      have hsh : ((j : Int) % 16).toNat = j % 16 := by omega
      clear hT hTT hb hxx hcell hq
      go_wp2
      replace EE : MP w wr.drew R := EE.go (Below.refl _ _).drew
      have hc0 := HCE.out _ EE.fr
      refine wp_region_held_drew (S := fun W => W.cell? ⟨B, o + q, none⟩ = some (.int .i64 x)) (by kernel_rfl) hc0 (fun hHeld => ?_)
      obtain ⟨wD, hD⟩ : ∃ V, V = wr.drew := ⟨_, rfl⟩
      rw [← hD] at hHeld EE hc0 ⊢
      clear hD
      refine wpAnyH_take (i := 1) (oi := { dst := some 14, op := Op.move (Operand.tmp 0), type := 23, pos := "l05_scalar.go:61", after := #[], guard := none }) (v := .slice (some ⟨B, o, none⟩) n c) rfl (by kernel_rfl) (by kernel_rfl) (by kernel_rfl) (fun _ _ _ h => h) (.inl ⟨by rfl, fun _ _ => by rfl⟩) (by assumption) ?_
      simp only [Act.put, List.setIfInBounds_toArray, List.set_cons_zero, List.set_cons_succ]
      refine wpAnyH_take (i := 2) (oi := { dst := some 15, op := Op.move (Operand.tmp 4), type := 3, pos := "l05_scalar.go:61", after := #[], guard := none }) (v := .int .i64 (j : Int)) rfl (by kernel_rfl) (by kernel_rfl) (by kernel_rfl) (fun _ _ _ h => h) (.inl ⟨by rfl, fun _ _ => by rfl⟩) (by assumption) ?_
      simp only [Act.put, List.setIfInBounds_toArray, List.set_cons_zero, List.set_cons_succ]
      refine wpAnyH_take (i := 3) (oi := { dst := some 16, op := Op.binOp BinOp.quo 3 (Operand.tmp 15) (Operand.const (Value.int IntKind.i64 16)) 3, type := 3, pos := "l05_scalar.go:61", after := #[{ on := 2, ground := Ground.data }], guard := none }) (v := .int .i64 (q : Int)) rfl (by kernel_rfl) (by kernel_rfl) (by kernel_rfl) (fun _ _ _ h => h) (.inl ⟨by rfl, fun W hW => by simp [go_sem, *]⟩) (by assumption) ?_
      simp only [Act.put, List.setIfInBounds_toArray, List.set_cons_zero, List.set_cons_succ]
      refine wpAnyH_take (i := 4) (oi := { dst := some 17, op := Op.indexAddr 23 (Operand.tmp 14) (Operand.tmp 16), type := 0, pos := "l05_scalar.go:61", after := #[{ on := 1, ground := Ground.data }, { on := 3, ground := Ground.data }], guard := none }) (v := .pointer (some ⟨B, o + q, none⟩)) rfl (by kernel_rfl) (by kernel_rfl) (by kernel_rfl) (fun _ _ _ h => h) (.inl ⟨by rfl, fun W hW => by simp [go_sem, *]⟩) (by assumption) ?_
      simp only [Act.put, List.setIfInBounds_toArray, List.set_cons_zero, List.set_cons_succ]
      refine wpAnyH_take (i := 5) (oi := { dst := some 18, op := Op.load 3 (Operand.tmp 17), type := 3, pos := "l05_scalar.go:61", after := #[{ on := 4, ground := Ground.data }], guard := none }) (v := .int .i64 x) rfl (by kernel_rfl) (by kernel_rfl) (by kernel_rfl) (fun _ _ _ h => h) (.inl ⟨by rfl, fun W hW => by simp [go_sem, *]⟩) (by assumption) ?_
      simp only [Act.put, List.setIfInBounds_toArray, List.set_cons_zero, List.set_cons_succ]
      refine wpAnyH_take (i := 6) (oi := { dst := some 19, op := Op.move (Operand.tmp 4), type := 3, pos := "l05_scalar.go:61", after := #[], guard := none }) (v := .int .i64 (j : Int)) rfl (by kernel_rfl) (by kernel_rfl) (by kernel_rfl) (fun _ _ _ h => h) (.inl ⟨by rfl, fun _ _ => by rfl⟩) (by assumption) ?_
      simp only [Act.put, List.setIfInBounds_toArray, List.set_cons_zero, List.set_cons_succ]
      refine wpAnyH_take (i := 7) (oi := { dst := some 20, op := Op.binOp BinOp.rem 3 (Operand.tmp 19) (Operand.const (Value.int IntKind.i64 16)) 3, type := 3, pos := "l05_scalar.go:61", after := #[{ on := 6, ground := Ground.data }], guard := none }) (v := .int .i64 ((j : Int) % 16)) rfl (by kernel_rfl) (by kernel_rfl) (by kernel_rfl) (fun _ _ _ h => h) (.inl ⟨by rfl, fun W hW => by simp [go_sem, *]⟩) (by assumption) ?_
      simp only [Act.put, List.setIfInBounds_toArray, List.set_cons_zero, List.set_cons_succ]
      refine wpAnyH_take (i := 8) (oi := { dst := some 21, op := Op.binOp BinOp.shr 3 (Operand.tmp 18) (Operand.tmp 20) 3, type := 3, pos := "l05_scalar.go:61", after := #[{ on := 5, ground := Ground.data }, { on := 7, ground := Ground.data }], guard := none }) (v := .int .i64 y) rfl (by kernel_rfl) (by kernel_rfl) (by kernel_rfl) (fun _ _ _ h => h) (.inl ⟨by rfl, fun W hW => by simp [go_sem, *]⟩) (by assumption) ?_
      simp only [Act.put, List.setIfInBounds_toArray, List.set_cons_zero, List.set_cons_succ]
      refine wpAnyH_take (i := 9) (oi := { dst := some 22, op := Op.binOp BinOp.and 3 (Operand.tmp 21) (Operand.const (Value.int IntKind.i64 1)) 3, type := 3, pos := "l05_scalar.go:61", after := #[{ on := 8, ground := Ground.data }], guard := none }) (v := .int .i64 b) rfl (by kernel_rfl) (by kernel_rfl) (by kernel_rfl) (fun _ _ _ h => h) (.inl ⟨by rfl, fun W hW => by simp [go_sem, *]⟩) (by assumption) ?_
      simp only [Act.put, List.setIfInBounds_toArray, List.set_cons_zero, List.set_cons_succ]
      refine wpAnyH_ready (rs := [0]) (by kernel_rfl) (by simp) (AllReadyH.cons (o := { dst := some 13, op := Op.load 66 (Operand.tmp 3), type := 66, pos := "l05_scalar.go:61", after := #[], guard := none }) rfl (fun K hK => ?_) AllReadyH.nil)
      rw [if_pos (by rfl)]
      refine wp_load_mid _ _ rfl _ _ rfl (I64 R) _ (arr_range EE.pr) hu rfl hirl ?_
      simp only [Act.put, List.setIfInBounds_toArray, List.set_cons_zero, List.set_cons_succ]
      refine hK.out _ _ hc0 (fun hHeld => ?_)
      clear hK K
      refine wpAnyH_ready (rs := [10]) (by kernel_rfl) (by simp) (AllReadyH.cons (o := { dst := some 23, op := Op.call { callee := Callee.value (Operand.func 83), args := #[Operand.tmp 13, Operand.tmp 22], argTypes := #[66, 3] }, type := 66, pos := "l05_scalar.go:61", after := #[{ on := 0, ground := Ground.data }, { on := 9, ground := Ground.data }], guard := none }) rfl (fun K hK => ?_) AllReadyH.nil)
      go_simp
      refine (HTW.out _).mono ?_
      rintro e w4 ⟨rfl, hb4⟩
      replace EE := EE.go hb4
      clear hb4 hc0
      have hc0 := HCE.out _ EE.fr
      go_wp2_with fail
      refine hK.out _ _ hc0 (fun hHeld => ?_)
      clear hK K
      have hth : w4.there (w.heap.size + 1) 0 (I64 T).toArray.size := by simpa [hRl, hTl] using arr_there EE.pr
      have E5 := EE.put T (by simp [hRl, hTl])
      have hc5 := HCE.out _ E5.fr
      rw [HTT.out] at E5
      have HE5 : Hid _ := E5
      rw [← HTT.out] at HE5
      refine wpAnyH_ready (rs := [11]) (by kernel_rfl) (by simp) (AllReadyH.cons (o := { dst := none, op := Op.store 66 (Operand.tmp 3) (Operand.tmp 23), type := 0, pos := "l05_scalar.go:61", after := #[{ on := 10, ground := Ground.data }, { on := 10, ground := Ground.chain }, { on := 0, ground := Ground.phase }, { on := 1, ground := Ground.phase }, { on := 2, ground := Ground.phase }, { on := 3, ground := Ground.phase }, { on := 4, ground := Ground.phase }, { on := 5, ground := Ground.phase }, { on := 6, ground := Ground.phase }, { on := 7, ground := Ground.phase }, { on := 8, ground := Ground.phase }, { on := 9, ground := Ground.phase }, { on := 10, ground := Ground.phase }], guard := none }) rfl (fun K hK => ?_) AllReadyH.nil)
      rw [if_pos (by rfl)]
      refine wp_store_mid _ _ _ rfl _ _ (I64 T).toArray rfl rfl hth hit (all_oneCell_toArray hone) ?_
      simp only [Act.put]
      refine hK.out _ _ hc5 (fun hHeld => ?_)
      clear hK K
      refine wpAnyH_done (by kernel_rfl) ?_ _
      clear hHeld hc0 hc5 E5
      go_wp2
      go_roundw
      case rel => exact ⟨j, (j : Int) - 1, by omega, rfl, by go_num, HTT.out ▸ HE5.out⟩
      case measure => simp [intOf]
end Go.Proofs.YtlafcjoccbinaaaDoor

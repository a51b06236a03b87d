/-
  What is proved here: contracts of the specification's l5in and l5out: a multiplier out of a slice of ints and back into a new one; what an answer is; the contract of the laws' count of a slice of ints; the contract of a helper of the exact laws (copy a slice of ints), for every slice of at most 2^21 ints; contracts of the laws' helpers on a number of the field: hold two against each other, mark, held; contracts of the laws' helpers on a number of the field: count, copy.
-/
import Derived.Test.YtoblilngppjmhaaDoorZFn
import Derived.Test.YtoblilngppjmhaaDoorZKit
import Derived.Test.YtoblilngppjmhaaDoorZSmBI
import Derived.Test.YtoblilngppjmhaaDoorZFp
namespace Go.Proofs.YtoblilngppjmhaaDoor
open Go.RowKit
set_option maxRecDepth 100000

theorem own_otherS {w : World} {b e s n : Nat} {v : Value} {xs : List Value} (h : w.ownsRow b e s v n xs) (p : Addr) (u : Value) (hp : p.block < b) : (w.setCell p u).ownsRow b e s v n xs := by
  refine ⟨h.1, ?_⟩
  rcases h.2 with hn | ⟨g, cap, cur, rfl, hg, hgg, rest⟩
  · exact .inl hn
  · refine .inr ⟨g, cap, cur, rfl, hg, ?_, rest⟩
    rw [heap_setCell_other w p g u (by omega)]
    exact hgg


set_option maxHeartbeats 1000000 in
theorem specScOut (l : List Int) (w : World) (hl : l.length = 16) (hm : Lm l) :
    Calls Tryd.prog 114 #[.agg (I64 l).toArray] w fun e w' => ∃ a c, e = .returned (.agg #[.slice a 16 c]) ∧ w'.ownsRow w.heap.size 3 1 (.slice a 16 c) 16 (I64 l) ∧ Below w.heap.size w w' := by
  obtain ⟨A, hA⟩ : ∃ A, A = (I64 l).toArray := ⟨_, rfl⟩
  rw [← hA]
  obtain ⟨W, hW⟩ : ∃ W, W = (w.alloc (.cells A 82)).alloc (.cells #[.slice none 0 0] 37) := ⟨_, rfl⟩
  have g0 : Arr W w.heap.size 82 (I64 l) := by rw [hW, hA]; exact (Arr.new w (I64 l) _).alloc _
  have g1 : Arr W (w.heap.size + 1) 37 [.slice none 0 0] := by
    rw [hW]
    have := Arr.new (w.alloc (.cells A 82)) [.slice none 0 0] 37
    rw [World.size_alloc] at this
    exact this
  have gB : Below w.heap.size w W := by rw [hW]; exact ((Below.refl _ _).alloc (Nat.le_refl _) _).alloc (by simp) _
  clear hA
  go_enter Tryd.func114, Tryd.ntmps114
  go_wp2
  go_loopw [3, 4] (fun v i wr => ∃ k : Nat, k ≤ 16 ∧ i = .int .i64 k ∧ wr.ownsRow (w.heap.size + 2) 3 1 v k (I64 (l.take k)) ∧ Arr wr w.heap.size 82 (I64 l) ∧ Arr wr (w.heap.size + 1) 37 [.slice none 0 0] ∧ Below w.heap.size w wr ∧ w.heap.size + 2 ≤ wr.heap.size) (fun _ i _ => 16 - (intOf i).toNat)
  case atStart => exact ⟨0, by omega, rfl, by simpa using World.ownsRow_nil _ _ _ _, hW ▸ g0, hW ▸ g1, hW ▸ gB, by simp⟩
  case round =>
    clear g0 g1 gB hW
    obtain ⟨k, hk, rfl, ho, g0, g1, gB, gs⟩ := hrel
    by_cases hlt : k < 16
    · obtain ⟨x, hx⟩ : ∃ x, x = l.getD k 0 := ⟨_, rfl⟩
      have hck := g0.i64 k (by omega)
      rw [← hx] at hck
      have hxb := gD_lm hm k
      rw [← hx] at hxb
      have hts := take_app l k (by omega)
      rw [← hx] at hts
      have HTS : Hid _ := hts
      have hk16 : (k : Int) < 16 := by omega
      have hk0 : (0 : Int) ≤ (k : Int) := by omega
      clear hts hx
      go_wp2_with (at_builtin; refine wpl_append_is rfl _ _ rfl (w.heap.size + 2) _ k (l.take k) rfl (some ⟨wr.heap.size, 0, none⟩) 1 1 [x] rfl (ho.alloc _) ?_ ?_ ?_ ?_)
      · exact Is.one _ _ (by omega) (by omega)
      · omega
      · first | omega | (simp; omega)
      intro v' w' h1 h2 _
      have hbA : Below (w.heap.size + 2) wr w' := ((Below.refl _ _).alloc (by omega) _).grown h2 (by simp; omega) (fun j hj => (ho.lt j hj).1)
      have g0' := g0.below hbA (by omega)
      have g1' := g1.below hbA (by omega)
      have gB' := gB.trans (hbA.mono (by omega))
      have gs' := Nat.le_trans gs hbA.size
      have HR : Hid (w'.ownsRow (w.heap.size + 2) 3 1 v' (k + 1) (I64 (l.take (k + 1)))) := by
        unfold Hid
        rw [HTS.out]; simpa using h1
      clear h1 h2 ho g0 g1 gB hbA HTS hck
      go_wp2
      go_roundw
      case rel => exact ⟨k + 1, by omega, by go_num, HR.out, g0', g1', gB', gs'⟩
      case measure => simp [intOf]; omega
    · obtain rfl : k = 16 := by omega
      rw [List.take_of_length_le (by omega)] at ho
      obtain ⟨a, c, rfl, _, _⟩ := Is.own ho (fun x hx => by have := hm x hx; omega)
      have c1 : wr.cell? ⟨w.heap.size + 1, 0, none⟩ = some (.slice none 0 0) := g1.cell 0
      have hf1 := g1.frozen 0
      have g1' := g1.set 0 (.slice a 16 c)
      have gB' := gB.setCell (p := ⟨w.heap.size + 1, 0, none⟩) (by simp) (.slice a 16 c)
      have ho' := own_base (own_otherS ho ⟨w.heap.size + 1, 0, none⟩ (.slice a 16 c) (by show w.heap.size + 1 < w.heap.size + 2; omega)) (show w.heap.size ≤ w.heap.size + 2 by omega)
      have G1 : Hid _ := g1'
      have GB : Hid _ := gB'
      have HO : Hid _ := ho'
      clear g1' gB' ho' g0 g1 gB ho
      go_wp2
      exact bodyPost_ret (results_cell_row rfl _ _ (w.heap.size + 1) 37 _ (0, 0) _ rfl G1.out Tryd.underlying37 rfl (by kernel_rfl)) rfl ⟨a, c, rfl, HO.out, GB.out⟩
set_option maxHeartbeats 1000000 in
theorem specScIn (a : Option Addr) (c : Nat) (xs : List Int) (w : World) (hx : Is w a 16 c xs) :
    Calls Tryd.prog 95 #[.agg #[.slice a 16 c]] w fun e w' => e = .returned (.agg (I64 xs).toArray) ∧ Below w.heap.size w w' := by
  obtain ⟨_, hl, hc, hr, hx⟩ := hx
  rcases hx with hx | ⟨b, o, rfl, hbs, hcell⟩
  · omega
  obtain ⟨W, hW⟩ : ∃ W, W = ((w.alloc (.cells #[.slice (some ⟨b, o, none⟩) 16 c] 37)).alloc (.cells (I64 Z16).toArray 82)).alloc (.cells (I64 Z16).toArray 82) := ⟨_, rfl⟩
  have g0 : Arr W w.heap.size 37 [.slice (some ⟨b, o, none⟩) 16 c] := by rw [hW]; exact ((Arr.new w [.slice (some ⟨b, o, none⟩) 16 c] _).alloc _).alloc _
  have g1 : Arr W (w.heap.size + 1) 82 (I64 Z16) := by
    rw [hW]
    have := (Arr.new (w.alloc (.cells #[.slice (some ⟨b, o, none⟩) 16 c] 37)) (I64 Z16) 82).alloc (.cells (I64 Z16).toArray 82)
    rw [World.size_alloc] at this
    exact this
  have g2 : Arr W (w.heap.size + 2) 82 (I64 (xs.take 0 ++ Z16.drop 0)) := by
    rw [hW]
    have := Arr.new ((w.alloc (.cells #[.slice (some ⟨b, o, none⟩) 16 c] 37)).alloc (.cells (I64 Z16).toArray 82)) (I64 Z16) 82
    rw [World.size_alloc, World.size_alloc] at this
    exact this
  have gB : Below w.heap.size w W := by rw [hW]; exact (((Below.refl _ _).alloc (Nat.le_refl _) _).alloc (by simp) _).alloc (by simp; omega) _
  go_enter Tryd.func95, Tryd.ntmps95
  go_wp2
  go_loopw [4] (fun i wr => ∃ k : Nat, k ≤ 16 ∧ i = .int .i64 k ∧ Arr wr w.heap.size 37 [.slice (some ⟨b, o, none⟩) 16 c] ∧ Arr wr (w.heap.size + 1) 82 (I64 Z16) ∧ Arr wr (w.heap.size + 2) 82 (I64 (xs.take k ++ Z16.drop k)) ∧ Below w.heap.size w wr) (fun i _ => 16 - (intOf i).toNat)
  case atStart => exact ⟨0, by omega, rfl, hW ▸ g0, hW ▸ g1, hW ▸ g2, hW ▸ gB⟩
  case round =>
    clear g0 g1 g2 gB hW
    obtain ⟨k, hk, rfl, g0, g1, g2, gB⟩ := hrel
    have hfl : (xs.take k).length = k := by simp; omega
    by_cases hlt : k < 16
    · obtain ⟨x, hx⟩ : ∃ x, x = xs.getD k 0 := ⟨_, rfl⟩
      have hck : wr.cell? ⟨b, o + k, none⟩ = some (.int .i64 x) := by rw [hx]; exact (gB.cell (p := ⟨b, o + k, none⟩) hbs).trans (hcell k hlt)
      have c0 : wr.cell? ⟨w.heap.size, 0, none⟩ = some (.slice (some ⟨b, o, none⟩) 16 c) := g0.cell 0
      obtain ⟨u, hu⟩ : ∃ u, wr.cell? ⟨w.heap.size + 2, k, none⟩ = some u := by
        rw [g2.cell k]
        exact ⟨_, List.getElem?_eq_getElem (by simp [hl]; omega)⟩
      have hfz := g2.frozen k
      have hts := take_app xs k (by omega)
      have g2' := g2.set k (.int .i64 x)
      rw [set_app hfl (show k < Z16.length from hlt), hx, ← hts, ← hx] at g2'
      have g0' := g0.other ⟨w.heap.size + 2, k, none⟩ (.int .i64 x) (by simp)
      have g1' := g1.other ⟨w.heap.size + 2, k, none⟩ (.int .i64 x) (by simp)
      have gB' := gB.setCell (p := ⟨w.heap.size + 2, k, none⟩) (by simp) (.int .i64 x)
      have hk16 : (k : Int) < 16 := by omega
      have hk0 : (0 : Int) ≤ (k : Int) := by omega
      have H0 : Hid _ := g0'
      have H1 : Hid _ := g1'
      have H2 : Hid _ := g2'
      have HB : Hid _ := gB'
      clear g0' g1' g2' gB' g0 g1 g2 gB hx hts hcell hr
      go_wp2
      go_roundw
      case rel => exact ⟨k + 1, by omega, by go_num, H0.out, H1.out, H2.out, HB.out⟩
      case measure => simp [intOf]; omega
    · obtain rfl : k = 16 := by omega
      rw [List.take_of_length_le (by omega), show Z16.drop 16 = [] from rfl, List.append_nil] at g2
      have g1' := g1.row (I64 xs)
      have gB' := setRow_below gB (w.heap.size + 1) (I64 xs).toArray (by omega)
      clear hfl hcell hr g0
      go_wp2_with (first
        | (refine wpList_load_row rfl 82 _ rfl (w.heap.size + 2) rfl 82 (I64 xs).toArray (0, 0) _ g2 Tryd.underlying82 rfl (by simpa [hl] using infoE) ?_)
        | (refine wpList_store_row rfl 82 _ _ rfl (w.heap.size + 1) (I64 xs).toArray rfl rfl 82 _ g1 (by simpa [hl] using infoE) (by simp [hl]) (by simp [Value.oneCell']) ?_))
      exact bodyPost_ret (results_cell_row rfl _ _ (w.heap.size + 1) 82 (I64 xs).toArray (0, 0) _ rfl g1' Tryd.underlying82 rfl (by simpa [hl] using infoE)) rfl ⟨rfl, gB'⟩

theorem infoSc : (Tryd.prog.info? 37).map (·.size) = some 1 := by kernel_rfl
end Go.Proofs.YtoblilngppjmhaaDoor
namespace Go.Proofs.YtoblilngppjmhaaDoor
open Go.RowKit

set_option maxHeartbeats 1000000 in
theorem szI (a : Option Addr) (n c : Nat) (l : Int) (w : World) (h0 : 0 ≤ l) (h1 : l ≤ 1048576) (hn : n ≤ 9223372036854775807) :
    Calls Tryd.prog 93 #[.slice a n c, .int .i64 l] w fun e w' => e = .returned (.int .i64 (if l - (n : Int) < 0 then -1 else l - (n : Int))) ∧ w' = w := by
  have hw : wrap64 (l - (n : Int)) = l - (n : Int) := by unfold wrap64; omega
  by_cases hlt : l - (n : Int) < 0
  · rw [if_pos hlt]
    go_enter Tryd.func93, Tryd.ntmps93
    go_wp2
    go_ret
    exact ⟨rfl, rfl⟩
  · rw [if_neg hlt]
    go_enter Tryd.func93, Tryd.ntmps93
    go_wp2
    go_ret
    exact ⟨rfl, rfl⟩

end Go.Proofs.YtoblilngppjmhaaDoor
namespace Go.Proofs.YtoblilngppjmhaaDoor
open Go.RowKit

set_option maxHeartbeats 400000 in
theorem toI (a : Option Addr) (n cap : Nat) (xs : List Int) (w : World) (h : Is w a n cap xs) (hn : n ≤ 2097152) :
    Calls Tryd.prog 96 #[.slice a n cap] w fun e w' => ∃ v, e = .returned v ∧ w'.ownsRow w.heap.size 3 1 v n (I64 xs) ∧ Below w.heap.size w w' := by
  obtain ⟨i0, hi, hz0, hz1, hz2⟩ := info_parts Tryd.info3
  obtain ⟨_, hl, hc, _, h⟩ := h
  go_enter Tryd.func96, Tryd.ntmps96
  go_wp2_with (at_make; refine wpList_make_full _ rfl _ _ 23 rfl w.heap.size 3 i0 (.int .i64 0) 1 Tryd.underlying23 hi hz0 hz1 .i64 .i64 n n n rfl rfl rfl rfl (by rw [hz2]; omega) (by unfold maxLen; omega) (Nat.le_refl _) ?_; intro w1 hown hgrow)
  have hbel : Below w.heap.size w w1 := (Below.refl _ _).grown hgrow (Nat.le_refl _) (by intro k hk; cases hk)
  have hown0 : w1.ownsRow w.heap.size 3 1 (.slice (some ⟨w.heap.size, 0, none⟩) n n) n (I64 (xs.take 0 ++ List.replicate (n - 0) 0)) := by
    have e : (madeCells (Value.int IntKind.i64 0).cells (n * 1)).toList = I64 (xs.take 0 ++ List.replicate (n - 0) 0) := by
      rw [Nat.mul_one]; simpa [I64, Value.cells] using toList_madeCells_one (.int .i64 0) n
    rw [← e]; exact hown
  clear hown hgrow
  go_loopw [4] (fun i wr => ∃ k : Nat, k ≤ n ∧ i = .int .i64 k ∧ wr.ownsRow w.heap.size 3 1 (.slice (some ⟨w.heap.size, 0, none⟩) n n) n (I64 (xs.take k ++ List.replicate (n - k) 0)) ∧ Below w.heap.size w wr) (fun i _ => n - (intOf i).toNat)
  case atStart => exact ⟨0, Nat.zero_le _, rfl, hown0, hbel⟩
  case round =>
    obtain ⟨k, hk, rfl, hown, hb⟩ := hrel
    clear hown0 hbel
    by_cases hlt : k < n
    · rcases h with h | ⟨b, o, rfl, hbs, hcell⟩
      · omega
      · obtain ⟨x, hx⟩ : ∃ x, x = xs.getD k 0 := ⟨_, rfl⟩
        have hck : wr.cell? ⟨b, o + k, none⟩ = some (.int .i64 x) := by rw [hx]; exact (hb.cell (p := ⟨b, o + k, none⟩) hbs).trans (hcell k hlt)
        have hfz := hown.frozenAt k
        obtain ⟨u, hu⟩ : ∃ u, wr.cell? ⟨w.heap.size, k, none⟩ = some u := by
          rw [hown.cellAt k (by omega)]
          have : k < (I64 (xs.take k ++ List.replicate (n - k) 0)).length := by simp; omega
          exact ⟨_, List.getElem?_eq_getElem this⟩
        have hst := hown.stored k (.int .i64 x)
        rw [hx, set_takeI xs n k (by omega) hl, ← hx] at hst
        have hb2 := hb.setCell (p := ⟨w.heap.size, k, none⟩) (Nat.le_refl _) (.int .i64 x)
        have HS : Hid _ := hst
        have HB : Hid _ := hb2
        clear hst hb2 hown hcell hx
        go_wp2
        go_roundw
        case rel => exact ⟨k + 1, by omega, by go_num, HS.out.1, HB.out⟩
        case measure => simp [intOf]; omega
    · have hkn : k = n := by omega
      subst hkn
      go_wp2
      go_ret
      refine ⟨_, rfl, ?_, hb⟩
      simpa [List.take_of_length_le (show xs.length ≤ k by omega)] using hown

theorem toSI (a : Option Addr) (n cap : Nat) (xs : List Int) (w : World) (h : Is w a n cap xs) (hn : n ≤ 2097152) :
    Calls Tryd.prog 96 #[.slice a n cap] w fun e w' => ∃ a' cap', e = .returned (.slice a' n cap') ∧ w'.ownsRow w.heap.size 3 1 (.slice a' n cap') n (I64 xs) ∧ Is w' a' n cap' xs ∧ Below w.heap.size w w' := by
  have hby := h.2.2.2.1
  refine (toI a n cap xs w h hn).mono ?_
  rintro e w' ⟨v, rfl, hown, hb⟩
  obtain ⟨a', cap', rfl, _, hbs⟩ := Is.own hown hby
  exact ⟨a', cap', rfl, hown, hbs, hb⟩
end Go.Proofs.YtoblilngppjmhaaDoor
namespace Go.Proofs.YtoblilngppjmhaaDoor
open Go.RowKit

set_option maxHeartbeats 1000000 in
theorem eqFeC (a a' : Option Addr) (n c c' : Nat) (xs : List Int) (w : World) (h : Is w a n c xs) (h' : Is w a' n c' xs) (hn : n ≤ 2097152) :
    Calls Tryd.prog 85 #[.agg #[.slice a n c], .agg #[.slice a' n c']] w fun e w' => e = .returned (.bool true) ∧ Below w.heap.size w w' := by
  have HB : Hid (Below w.heap.size w ((w.alloc (.cells #[.slice a n c] 25)).alloc (.cells #[.slice a' n c'] 25))) := ((Below.refl _ _).alloc (Nat.le_refl _) _).alloc (by simp) _
  go_enter Tryd.func85, Tryd.ntmps85
  go_wp2_with fail
  refine (eqI a a' n c c' xs _ (h.below HB.out) (h'.below HB.out) hn).mono ?_
  rintro e w1 ⟨q, rfl, rfl⟩
  go_wp2
  go_ret
  exact ⟨rfl, bel_dN HB.out q⟩

set_option maxHeartbeats 1000000 in
theorem markFeC {ty : Nat} (B n : Nat) (v : Value) (k0 : Int) (xs : List Int) (w : World) (ho : w.ownsRow B ty 1 v n (I64 xs)) (hn : n ≤ 2097152) (h0 : 0 ≤ k0) (h1 : k0 ≤ 10000000) :
    Calls Tryd.prog 88 #[.agg #[v], .int .i64 k0] w fun e w' => e = .returned (.int .i64 (k0 + n)) ∧ w'.ownsRow B ty 1 v n (I64 (marksI k0 n)) ∧ w.grownBy w' v.ownBlock := by
  go_enter Tryd.func88, Tryd.ntmps88
  go_wp2_with fail
  refine (markI B n v k0 xs _ (ho.alloc _) hn h0 h1).mono ?_
  rintro e w1 ⟨rfl, o1, g1⟩
  have GG : Hid (w.grownBy w1 v.ownBlock) := by
    unfold Hid
    exact ⟨g1.os, g1.tape, g1.output, Nat.le_trans (by simp) g1.size, fun i hi n1 => by
      have hi1 : i < (w.alloc (.cells #[v] 25)).heap.size := by simp; omega
      rw [g1.block i hi1 n1, heap_alloc_old _ _ hi]⟩
  have HO : Hid _ := o1
  clear g1 o1
  go_wp2
  go_ret
  exact ⟨rfl, HO.out, GG.out⟩

set_option maxHeartbeats 1000000 in
theorem heldFeC (a : Option Addr) (n c : Nat) (k0 : Int) (w : World) (h : Is w a n c (marksI k0 n)) (hn : n ≤ 2097152) (h0 : 0 ≤ k0) (h1 : k0 ≤ 10000000) :
    Calls Tryd.prog 89 #[.agg #[.slice a n c], .int .i64 k0] w fun e w' => e = .returned (.int .i64 (k0 + n)) ∧ Below w.heap.size w w' := by
  have HB : Hid (Below w.heap.size w (w.alloc (.cells #[.slice a n c] 25))) := (Below.refl _ _).alloc (Nat.le_refl _) _
  have l1 : ¬ (k0 + (n : Int) < 0) := by omega
  go_enter Tryd.func89, Tryd.ntmps89
  go_wp2_with fail
  refine (heldI a n c k0 _ (h.below HB.out) hn h0 h1).mono ?_
  rintro e w1 ⟨rfl, rfl⟩
  go_wp2
  go_ret
  exact ⟨rfl, HB.out⟩

end Go.Proofs.YtoblilngppjmhaaDoor
namespace Go.Proofs.YtoblilngppjmhaaDoor
open Go.RowKit

set_option maxHeartbeats 1000000 in
theorem szFeC (a : Option Addr) (n c : Nat) (l : Int) (w : World) (h0 : 0 ≤ l) (hl : l ≤ 1048576) (hn : n ≤ 9223372036854775807) :
    Calls Tryd.prog 83 #[.agg #[.slice a n c], .int .i64 l] w fun e w' => ∃ r : Int, e = .returned (.int .i64 r) ∧ (r = -1 ∨ 0 ≤ r ∧ r ≤ l ∧ n ≤ 1048576) ∧ Below w.heap.size w w' := by
  have HB : Hid (Below w.heap.size w (w.alloc (.cells #[.slice a n c] 50))) := (Below.refl _ _).alloc (Nat.le_refl _) _
  go_enter Tryd.func83, Tryd.ntmps83
  go_wp2_with fail
  refine (szI a n c l _ h0 hl hn).mono ?_
  rintro e w1 ⟨rfl, rfl⟩
  by_cases hlt : l - (n : Int) < 0
  · rw [if_pos hlt]
    go_wp2
    go_ret
    exact ⟨-1, rfl, .inl rfl, HB.out⟩
  · rw [if_neg hlt]
    go_wp2
    go_ret
    exact ⟨_, rfl, .inr (by omega), HB.out⟩

set_option maxHeartbeats 1000000 in
theorem toFeC (a : Option Addr) (n c : Nat) (xs : List Int) (w : World) (h : Is w a n c xs) (hn : n ≤ 2097152) :
    Calls Tryd.prog 84 #[.agg #[.slice a n c]] w fun e w' => ∃ a' c', e = .returned (.agg #[.slice a' n c']) ∧ w'.ownsRow w.heap.size 3 1 (.slice a' n c') n (I64 xs) ∧ Is w' a' n c' xs ∧ Below w.heap.size w w' := by
  obtain ⟨W, hW⟩ : ∃ W, W = ((w.alloc (.cells #[.slice a n c] 50)).alloc (.cells #[.slice none 0 0] 25)).alloc (.cells #[.slice none 0 0] 25) := ⟨_, rfl⟩
  have gB : Below w.heap.size w W := by rw [hW]; exact (((Below.refl _ _).alloc (Nat.le_refl _) _).alloc (by simp) _).alloc (by simp; omega) _
  have g1 : Arr W (w.heap.size + 1) 25 [.slice none 0 0] := by
    rw [hW]
    have := (Arr.new (w.alloc (.cells #[.slice a n c] 50)) [.slice none 0 0] 25).alloc (.cells #[.slice none 0 0] 25)
    rw [World.size_alloc] at this
    exact this
  have g2 : Arr W (w.heap.size + 1 + 1) 25 [.slice none 0 0] := by
    rw [hW]
    have := Arr.new ((w.alloc (.cells #[.slice a n c] 50)).alloc (.cells #[.slice none 0 0] 25)) [.slice none 0 0] 25
    rw [World.size_alloc, World.size_alloc] at this
    exact this
  go_enter Tryd.func84, Tryd.ntmps84
  go_wp2_with fail
  rw [← hW]
  clear hW
  refine (toSI a n c xs _ (h.below gB) hn).mono ?_
  rintro e w1 ⟨a', c', rfl, ho, hi, hb1⟩
  have f1 := g1.kept hb1
  have f2 := g2.kept hb1
  have fB := gB.trans (hb1.mono gB.size)
  have l2 := g2.lt
  have c1 : w1.cell? ⟨w.heap.size + 1, 0, none⟩ = some (.slice none 0 0) := f1.cell 0
  have c2 : w1.cell? ⟨w.heap.size + 1 + 1, 0, none⟩ = some (.slice none 0 0) := f2.cell 0
  have z1 := f1.frozen 0
  have z2 := f2.frozen 0
  have hby := h.2.2.2.1
  have F2' := f2.set 0 (.slice a' n c')
  have F1' := (f1.other ⟨w.heap.size + 1 + 1, 0, none⟩ (.slice a' n c') (by show w.heap.size + 1 ≠ w.heap.size + 1 + 1; omega)).set 0 (.slice a' n c')
  have FB := (fB.setCell (p := ⟨w.heap.size + 1 + 1, 0, none⟩) (by show w.heap.size ≤ w.heap.size + 1 + 1; omega) (.slice a' n c')).setCell (p := ⟨w.heap.size + 1, 0, none⟩) (by show w.heap.size ≤ w.heap.size + 1; omega) (.slice a' n c')
  have HO := own_base (own_other' (own_other' ho ⟨w.heap.size + 1 + 1, 0, none⟩ (.slice a' n c') l2) ⟨w.heap.size + 1, 0, none⟩ (.slice a' n c') (by show w.heap.size + 1 < _; omega)) gB.size
  have HOO : Hid _ := HO
  have HFB : Hid _ := FB
  have HF1 : Hid _ := F1'
  have d2 : (w1.setCell ⟨w.heap.size + 1 + 1, 0, none⟩ (.slice a' n c')).cell? ⟨w.heap.size + 1 + 1, 0, none⟩ = some (.slice a' n c') := F2'.cell 0
  clear ho hi hb1 f1 f2 fB F2' F1' FB HO g1 g2 gB
  go_wp2
  refine bodyPost_ret (results_cell_row rfl _ _ (w.heap.size + 1) 25 #[.slice a' n c'] (0, 0) _ rfl HF1.out Tryd.underlying25 rfl (by kernel_rfl)) rfl ⟨a', c', rfl, HOO.out, ?_, HFB.out⟩
  obtain ⟨a2, cap2, e2, _, hi2⟩ := Is.own HOO.out hby
  injection e2 with e3 _ e4
  subst e3 e4
  exact hi2
end Go.Proofs.YtoblilngppjmhaaDoor

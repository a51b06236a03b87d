/-
  What is proved here: what the program's opposites and the specification's l9blank answer.
-/
import Derived.Test.YtjceajgefpinpaaSmE
import Derived.Test.YtjceajgefpinpaaC0s
namespace Go.Proofs.Ytjceajgefpinpaa
set_option maxRecDepth 100000
open Go.RowKit

def blk (xs : List Int) : Bool := decide (∀ x ∈ xs, x = 255)
theorem all_take {P : Int → Prop} {xs : List Int} {k : Nat} (h : ∀ x ∈ xs.take k, P x) (hk : k < xs.length) (hp : P (xs.getD k 0)) : ∀ x ∈ xs.take (k + 1), P x := by
  rw [take_snoc xs k hk]
  intro x hx
  rcases List.mem_append.1 hx with hx | hx
  · exact h x hx
  · simp only [List.mem_singleton] at hx; subst hx; exact hp
theorem not_all {P : Int → Prop} {xs : List Int} {k : Nat} (hk : k < xs.length) (hp : ¬ P (xs.getD k 0)) : ¬ ∀ x ∈ xs, P x := fun h => hp (by
  have e : xs.getD k 0 = xs[k] := by simp [hk]
  rw [e]; exact h _ (List.getElem_mem hk))

set_option maxHeartbeats 1000000 in
theorem specBlankB (a : Option Addr) (n cap : Nat) (xs : List Int) (w : World) (h : Bs w a n cap xs) (hn : n ≤ 2097152) :
    Calls Try.prog 80 #[.slice a n cap] w fun e w' => e = .returned (.bool (blk xs)) ∧ w' = w := by
  obtain ⟨_, hl, hc, _, h⟩ := h
  go_enter Try.func80, Try.ntmps80
  go_wp2
  go_loop [3] (fun i => ∃ k : Nat, k ≤ n ∧ i = .int .i64 k ∧ ∀ x ∈ xs.take k, x = 255) (fun i => n - (intOf i).toNat)
  case atStart => exact ⟨0, Nat.zero_le _, rfl, by simp⟩
  case round =>
    obtain ⟨k, hk, rfl, hall⟩ := hrel
    have HL : Hid _ := hall
    clear hall
    by_cases hlt : k < n
    · rcases h with h | ⟨b, o, rfl, hbs, hcell⟩
      · omega
      obtain ⟨x, hx⟩ : ∃ x, x = xs.getD k 0 := ⟨_, rfl⟩
      have hck : w.cell? ⟨b, o + k, none⟩ = some (.int .u8 x) := by rw [hx]; exact hcell k hlt
      have HX : Hid _ := hx
      clear hx hcell
      by_cases g1 : x = 255
      · have g1' : (x != 255) = false := by rw [g1]; rfl
        have G1 : Hid _ := g1
        clear g1
        go_wp2
        go_round
        case rel => exact ⟨k + 1, by omega, by go_num, all_take HL.out (by omega) (by rw [← HX.out]; exact G1.out)⟩
        case measure => simp [intOf]; omega
      · have g1' : (x != 255) = true := by simpa using g1
        go_wp2
        go_ret
        have : blk xs = false := by
          unfold blk; rw [decide_eq_false_iff_not]
          exact not_all (k := k) (by omega) (by rw [← HX.out]; exact g1)
        exact ⟨by rw [this]; rfl, rfl⟩
    · have hkn : k = n := by omega
      subst hkn
      go_wp2
      go_ret
      have : blk xs = true := by
        unfold blk; rw [decide_eq_true_eq]
        have := HL.out
        rwa [List.take_of_length_le (by omega)] at this
      exact ⟨by rw [this]; rfl, rfl⟩

set_option maxHeartbeats 4000000
def opp (xs : List Int) : List Int := xs.map fun x => bits .xor .u8 255 x
theorem opp_len (xs : List Int) : (opp xs).length = xs.length := by simp [opp]
theorem opp_get (xs : List Int) (k : Nat) (h : k < xs.length) : (opp xs).getD k 0 = bits .xor .u8 255 (xs.getD k 0) := by simp [opp, h]
theorem opp_byte (xs : List Int) : ∀ x ∈ opp xs, 0 ≤ x ∧ x < 256 := by
  intro x hx
  simp only [opp, List.mem_map] at hx
  obtain ⟨y, _, rfl⟩ := hx
  exact bits_byte _ _ _

theorem implOpposites (a : Option Addr) (n cap : Nat) (xs : List Int) (w : World) (h : Bs w a n cap xs) (hn : n ≤ 2097152) :
    Calls Try.prog 65 #[.slice a n cap] w fun e w' => ∃ v, e = .returned v ∧ w'.ownsRow w.heap.size 5 1 v n (U8 (opp xs)) ∧ Below w.heap.size w w' := by
  obtain ⟨i0, hi, hz0, hz1, hz2⟩ := info_parts Try.info5
  obtain ⟨_, hl, hc, _, h⟩ := h
  go_enter Try.func65, Try.ntmps65
  go_wp2_with (at_make; refine wpList_make_full _ rfl _ _ 22 rfl w.heap.size 5 i0 (.int .u8 0) 1 Try.underlying22 hi hz0 hz1 .i64 .i64 n n n rfl rfl rfl rfl (by rw [hz2]; omega) (by unfold maxLen; omega) (Nat.le_refl _) ?_; intro w1 hown hgrow)
  have hbel : Below w.heap.size w w1 := (Below.refl _ _).grown hgrow (Nat.le_refl _) (by intro k hk; cases hk)
  have hown0 : w1.ownsRow w.heap.size 5 1 (.slice (some ⟨w.heap.size, 0, none⟩) n n) n (U8 ((opp xs).take 0 ++ List.replicate (n - 0) 0)) := by
    have e : (madeCells (Value.int IntKind.u8 0).cells (n * 1)).toList = U8 ((opp xs).take 0 ++ List.replicate (n - 0) 0) := by
      rw [Nat.mul_one]; simpa [U8, Value.cells] using toList_madeCells_one (.int .u8 0) n
    rw [← e]; exact hown
  clear hown hgrow
  go_loopw [11] (fun i wr => ∃ k : Nat, k ≤ n ∧ i = .int .i64 k ∧ wr.ownsRow w.heap.size 5 1 (.slice (some ⟨w.heap.size, 0, none⟩) n n) n (U8 ((opp xs).take k ++ List.replicate (n - k) 0)) ∧ Below w.heap.size w wr) (fun i _ => n - (intOf i).toNat)
  case atStart => exact ⟨0, Nat.zero_le _, rfl, hown0, hbel⟩
  case round =>
    obtain ⟨k, hk, rfl, hown, hb⟩ := hrel
    clear hown0 hbel
    by_cases hlt : k < n
    · rcases h with h | ⟨b, o, rfl, hbs, hcell⟩
      · omega
      · obtain ⟨x, hx⟩ : ∃ x, x = xs.getD k 0 := ⟨_, rfl⟩
        have hck : wr.cell? ⟨b, o + k, none⟩ = some (.int .u8 x) := by rw [hx]; exact (hb.cell (p := ⟨b, o + k, none⟩) hbs).trans (hcell k hlt)
        have hfz := hown.frozenAt k
        obtain ⟨u, hu⟩ : ∃ u, wr.cell? ⟨w.heap.size, k, none⟩ = some u := by
          rw [hown.cellAt k (by omega)]
          have : k < (U8 ((opp xs).take k ++ List.replicate (n - k) 0)).length := by simp [opp_len]; omega
          exact ⟨_, List.getElem?_eq_getElem this⟩
        obtain ⟨y, hy⟩ : ∃ y, y = bits .xor .u8 255 x := ⟨_, rfl⟩
        have hst := hown.stored k (.int .u8 y)
        rw [show y = (opp xs).getD k 0 by rw [opp_get xs k (by omega), hy, hx], set_take (opp xs) n k (by rw [opp_len]; omega) (by rw [opp_len]; exact hl)] at hst
        have hb2 := hb.setCell (p := ⟨w.heap.size, k, none⟩) (Nat.le_refl _) (.int .u8 y)
        rw [show (opp xs).getD k 0 = bits .xor .u8 255 x by rw [opp_get xs k (by omega), hx]] at hst
        rw [hy] at hb2
        have HS : Hid _ := hst
        have HB : Hid _ := hb2
        clear hst hb2 hown hcell hx hy
        go_wp2
        go_roundw
        case rel => exact ⟨k + 1, by omega, by go_num, HS.out.1, HB.out⟩
        case measure => simp [intOf]; omega
    · have hkn : k = n := by omega
      subst hkn
      go_wp2
      go_ret
      refine ⟨_, rfl, ?_, hb⟩
      simpa [List.take_of_length_le (show (opp xs).length ≤ k by rw [opp_len]; omega)] using hown

end Go.Proofs.Ytjceajgefpinpaa

/-
  What is proved here: contracts of the specification's and of the program's HasPrefix: both hand back whether the first text's bytes begin with the second's, for every two slices of at most 2^21 bytes.
-/
import Derived.Test.YtjgoliajgfeehaaSmall
import Derived.Laws.BytesArg
namespace Go.Proofs.Ytjgoliajgfeehaa
open Go.RowKit

theorem conv_bs {w : World} {a : Option Addr} {n c : Nat} {xs : List Int} (h : Bs w a n c xs) : (convert 22 9 (.slice a n c)).run Try.prog w = .ok (.string (strOfNums xs)) w := by
  obtain ⟨_, hl, hc, _, h⟩ := h
  rcases h with h | ⟨b, o, rfl, _, hcell⟩
  · subst h
    have hx : xs = [] := List.eq_nil_of_length_eq_zero hl
    subst hx
    rw [run_convert_bytes_string w 22 9 5 _ 0 c Try.underlying22 Try.underlying5 Try.underlying9]
    cases a with
    | none => simp [Conv.bytesToString]; rfl
    | some ad => simp [Conv.bytesToString, loadCells]; rfl
  · exact run_convert_bytes_arg w 22 5 Try.underlying22 Try.underlying5 b o n c xs hl hcell 9 Try.underlying9

theorem Bs.take {w : World} {a : Option Addr} {n c : Nat} {xs : List Int} (h : Bs w a n c xs) (m : Nat) (hm : m ≤ n) : Bs w a m c (xs.take m) := by
  obtain ⟨h0, hl, hc, hby, h⟩ := h
  refine ⟨h0, by simp; omega, by omega, fun x hx => hby x (List.mem_of_mem_take hx), ?_⟩
  rcases h with h | ⟨b, o, ha, hb, hcell⟩
  · exact .inl (by omega)
  · refine .inr ⟨b, o, ha, hb, fun j hj => ?_⟩
    rw [hcell j (by omega)]
    simp [hj]

/-- An address without a spot, or none. -/
def Ad (a : Option Addr) (n c : Nat) : Prop := (a = none ∧ n = 0 ∧ c = 0) ∨ ∃ b o, a = some ⟨b, o, none⟩

theorem own_ad {w : World} {B n c : Nat} {a : Option Addr} {xs : List Value} (h : w.ownsRow B 5 1 (.slice a n c) n xs) : Ad a n c := by
  rcases h.2 with ⟨hv, hn⟩ | ⟨g, cap, cur, hv, _⟩
  · simp at hv; exact .inl ⟨hv.1, hn, hv.2.2⟩
  · simp at hv; exact .inr ⟨g, 0, hv.1⟩

set_option maxHeartbeats 400000 in
theorem bytesEqual (a a' : Option Addr) (n c n' c' : Nat) (xs ys : List Int) (w : World) (h : Bs w a n c xs) (h' : Bs w a' n' c' ys) :
    Calls Try.prog 61 #[.slice a n c, .slice a' n' c'] w fun e w' => e = .returned (.bool ((strOfNums xs).toList == (strOfNums ys).toList)) ∧ w' = w := by
  have g1 := conv_bs h
  have g2 := conv_bs h'
  clear h h'
  go_enter Try.func61, Try.ntmps61
  go_wp2
  go_ret
  exact ⟨rfl, rfl⟩

set_option maxHeartbeats 400000 in
theorem bytesPre (a a' : Option Addr) (n c n' c' : Nat) (xs ys : List Int) (w : World) (h : Bs w a n c xs) (h' : Bs w a' n' c' ys) (had : Ad a n c) (hn : n ≤ 2097152) (hn' : n' ≤ 2097152) :
    Calls Try.prog 56 #[.slice a n c, .slice a' n' c'] w fun e w' => e = .returned (.bool (decide (n' ≤ n) && ((strOfNums (xs.take n')).toList == (strOfNums ys).toList))) ∧ w' = w := by
  have hnc := h.2.2.1
  by_cases hle : n' ≤ n
  · have hq := bytesEqual a a' n' c n' c' (xs.take n') ys w (h.take n' hle) h'
    have HQ : Hid _ := hq
    have hd : decide (n' ≤ n) = true := by simp [hle]
    rw [hd, Bool.true_and]
    generalize ((strOfNums (xs.take n')).toList == (strOfNums ys).toList) = B at HQ
    clear hq h h' hd
    rcases had with ⟨rfl, rfl, rfl⟩ | ⟨b, o, rfl⟩
    · have h0 : n' = 0 := by omega
      subst h0
      go_enter Try.func56, Try.ntmps56
      go_wp2_with fail
      refine Calls.mono HQ.out ?_
      rintro e w' ⟨rfl, rfl⟩
      go_wp2
      go_ret
      exact ⟨rfl, rfl⟩
    · go_enter Try.func56, Try.ntmps56
      go_wp2_with fail
      refine Calls.mono HQ.out ?_
      rintro e w' ⟨rfl, rfl⟩
      go_wp2
      go_ret
      exact ⟨rfl, rfl⟩
  · have hd : decide (n' ≤ n) = false := by simp [hle]
    rw [hd, Bool.false_and]
    go_enter Try.func56, Try.ntmps56
    go_wp2
    go_ret
    exact ⟨rfl, rfl⟩

set_option maxHeartbeats 400000 in
theorem implPre (a a' : Option Addr) (n c n' c' : Nat) (xs ys : List Int) (w : World) (h : Bs w a n c xs) (h' : Bs w a' n' c' ys) (had : Ad a n c) (hn : n ≤ 2097152) (hn' : n' ≤ 2097152) :
    Calls Try.prog 27 #[.slice a n c, .slice a' n' c'] w fun e w' => e = .returned (.bool (decide (n' ≤ n) && ((strOfNums (xs.take n')).toList == (strOfNums ys).toList))) ∧ w' = w := by
  have hq := bytesPre a a' n c n' c' xs ys w h h' had hn hn'
  generalize (decide (n' ≤ n) && ((strOfNums (xs.take n')).toList == (strOfNums ys).toList)) = B at hq
  have HQ : Hid _ := hq
  clear hq h h'
  go_enter Try.func27, Try.ntmps27
  go_wp2_with fail
  refine Calls.mono HQ.out ?_
  rintro e w' ⟨rfl, rfl⟩
  go_wp2
  go_ret
  exact ⟨rfl, rfl⟩

set_option maxHeartbeats 400000 in
theorem specPre (a a' : Option Addr) (n c n' c' : Nat) (xs ys : List Int) (w : World) (h : Bs w a n c xs) (h' : Bs w a' n' c' ys) (had : Ad a n c) (hn : n ≤ 2097152) (hn' : n' ≤ 2097152) :
    Calls Try.prog 42 #[.slice a n c, .slice a' n' c'] w fun e w' => ∃ q, e = .returned (.bool (decide (n' ≤ n) && ((strOfNums (xs.take n')).toList == (strOfNums ys).toList))) ∧ w' = w.drewN q := by
  have hnc := h.2.2.1
  by_cases hle : n' ≤ n
  · have g1 := fun q => conv_bs ((h.take n' hle).below (bel_drewN w q))
    have g2 := fun q => conv_bs (h'.below (bel_drewN w q))
    have hd : decide (n' ≤ n) = true := by simp [hle]
    have hle' : (n' : Int) ≤ (n : Int) := by omega
    rw [hd, Bool.true_and]
    clear h h' hd
    rcases had with ⟨rfl, rfl, rfl⟩ | ⟨b, o, rfl⟩
    · have h0 : n' = 0 := by omega
      subst h0
      go_enter Try.func42, Try.ntmps42
      go_wp2
      go_quiet (fail)
      go_wp2
      go_ret
      exact ⟨_, rfl, rfl⟩
    · go_enter Try.func42, Try.ntmps42
      go_wp2
      go_quiet (fail)
      go_wp2
      go_ret
      exact ⟨_, rfl, rfl⟩
  · have hd : decide (n' ≤ n) = false := by simp [hle]
    rw [hd, Bool.false_and]
    go_enter Try.func42, Try.ntmps42
    go_wp2
    go_quiet (fail)
    go_wp2
    go_ret
    exact ⟨_, rfl, rfl⟩
end Go.Proofs.Ytjgoliajgfeehaa

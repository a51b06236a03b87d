/-
  What is proved here: bytes as a string, and the contract of the library's bytes.Equal at slices that are not nil.
-/
import Derived.Test.YtofflhhlacdgfaaDoorJP1
import Derived.Laws.BytesArg
import Derived.Laws.Strings
namespace Go.Proofs.YtofflhhlacdgfaaDoor
open Go.RowKit
set_option maxRecDepth 100000

theorem str_eq {xs ys : List Int} (hx : ∀ x ∈ xs, 0 ≤ x ∧ x < 256) (hy : ∀ x ∈ ys, 0 ≤ x ∧ x < 256) : ((strOfNums xs).toList == (strOfNums ys).toList) = decide (xs = ys) := by
  have e : ∀ l : List Int, (strOfNums l).toList = l.map (fun n => UInt8.ofNat n.toNat) := fun l => by
    unfold strOfNums
    exact ByteArray.toList_mk _
  have back : ∀ l : List Int, (∀ x ∈ l, 0 ≤ x ∧ x < 256) → (l.map (fun n => UInt8.ofNat n.toNat)).map (fun u => (u.toNat : Int)) = l := by
    intro l hl
    rw [List.map_map]
    have : l.map ((fun u : UInt8 => (u.toNat : Int)) ∘ fun n : Int => UInt8.ofNat n.toNat) = l.map id := List.map_congr_left fun n hn => by
      have := hl n hn
      simp only [Function.comp, id]
      rw [UInt8.toNat_ofNat']
      omega
    rw [this, List.map_id]
  rw [e, e]
  by_cases h : xs = ys
  · subst h; simp
  · have h9 : xs.map (fun n => UInt8.ofNat n.toNat) ≠ ys.map (fun n => UInt8.ofNat n.toNat) := fun q => h (by rw [← back xs hx, ← back ys hy, q])
    rw [decide_eq_false h]
    exact beq_eq_false_iff_ne.2 h9
theorem bs_conv {w : World} {b o n c : Nat} {xs : List Int} (h : Bs w (some ⟨b, o, none⟩) n c xs) : (convert 22 9 (.slice (some ⟨b, o, none⟩) n c)).run Tryd.prog w = .ok (.string (strOfNums xs)) w := by
  obtain ⟨_, hl, _, _, hx⟩ := h
  refine run_convert_bytes_arg w 22 5 Tryd.underlying22 Tryd.underlying5 b o n c xs hl (fun i hi => ?_) 9 Tryd.underlying9
  rcases hx with hx | ⟨b', o', he, _, hcell⟩
  · omega
  · cases he
    exact hcell i hi

set_option maxHeartbeats 1000000 in
theorem equalB (b o n c b' o' m d : Nat) (xs ys : List Int) (w : World) (h : Bs w (some ⟨b, o, none⟩) n c xs) (k : Bs w (some ⟨b', o', none⟩) m d ys) :
    Calls Tryd.prog 79 #[.slice (some ⟨b, o, none⟩) n c, .slice (some ⟨b', o', none⟩) m d] w fun e w' => e = .returned (.bool (decide (xs = ys))) ∧ w' = w := by
  have h1 := bs_conv h
  have h2 := bs_conv k
  have e1 := str_eq h.2.2.2.1 k.2.2.2.1
  obtain ⟨s, hs⟩ : ∃ s, s = strOfNums xs := ⟨_, rfl⟩
  obtain ⟨t, ht⟩ : ∃ t, t = strOfNums ys := ⟨_, rfl⟩
  rw [← hs] at h1 e1
  rw [← ht] at h2 e1
  rw [← e1]
  clear e1 hs ht h k
  go_enter Tryd.func79, Tryd.ntmps79
  go_wp2
  go_ret
  exact ⟨rfl, rfl⟩
end Go.Proofs.YtofflhhlacdgfaaDoor

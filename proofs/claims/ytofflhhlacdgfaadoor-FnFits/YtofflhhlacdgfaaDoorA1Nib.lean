/-
  What is proved here: contracts of the specification's l1nibble and of the program's digitValue, at every byte.
-/
import Derived.Test.YtofflhhlacdgfaaDoorA1Hex
import Derived.Laws.RangeString
namespace Go.Proofs.YtofflhhlacdgfaaDoor
open Go.RowKit
set_option maxRecDepth 100000

/-- A digit's value; -1 where it is none. -/
def nib (c : Int) : Int := if 48 ≤ c ∧ c ≤ 57 then c - 48 else if 97 ≤ c ∧ c ≤ 102 then c - 87 else -1

theorem nib_hexd (k : Int) (h0 : 0 ≤ k) (h1 : k < 16) : nib (hexd k) = k := by unfold nib hexd; split <;> split <;> (try split) <;> omega
theorem nib_none (c : Int) (h : ∀ j : Nat, j < 16 → hexd (j : Int) ≠ c) : nib c = -1 := by
  have h' : ∀ k : Int, 0 ≤ k → k < 16 → hexd k ≠ c := fun k h0 h1 => by
    obtain ⟨j, rfl⟩ := Int.eq_ofNat_of_zero_le h0
    exact h j (by omega)
  unfold nib
  split
  · exact absurd (show hexd (c - 48) = c by unfold hexd; split <;> omega) (h' _ (by omega) (by omega))
  · split
    · exact absurd (show hexd (c - 87) = c by unfold hexd; split <;> omega) (h' _ (by omega) (by omega))
    · rfl
theorem nib_lt (c : Int) : nib c < 16 ∧ -1 ≤ nib c := by 
  unfold nib
  repeat' split
  all_goals omega

theorem ret_int {k : IntKind} {a b : Int} (h : a = b) : Ending.returned (.int k a) = .returned (.int k b) := by rw [h]

abbrev HD : ByteArray := ⟨#[48, 49, 50, 51, 52, 53, 54, 55, 56, 57, 97, 98, 99, 100, 101, 102]⟩

theorem next_hex (w : World) (p : Nat) (ty : TypeId) (h : p < 16) :
    (Instr.next (.pointer (some ⟨w.heap.size, 0, none⟩)) true ty).run Tryd.prog (w.iter HD p) = .ok (.tuple #[.bool true, .int .i64 p, .int .i32 (hexd p)]) (w.iter HD (p + 1)) := by
  have hs : p < HD.size := h
  have key : ∀ q : Fin 16, (HD[q.val]'q.isLt).toNat < 128 ∧ ((HD[q.val]'q.isLt).toNat : Int) = hexd (q.val : Int) := by decide
  have hv : (HD[p]'hs).toNat < 128 ∧ ((HD[p]'hs).toNat : Int) = hexd p := key ⟨p, h⟩
  rw [run_next_ascii w HD p ty hs hv.1, hv.2]

theorem next_done (w : World) (ty : TypeId) :
    (Instr.next (.pointer (some ⟨w.heap.size, 0, none⟩)) true ty).run Tryd.prog (w.iter HD 16) = .ok (.tuple #[.bool false]) (w.iter HD 16) := run_next_end w HD 16 ty (by decide)

theorem bel_iter (w : World) (p : Nat) : Below w.heap.size w (w.iter HD p) := (Below.refl _ _).alloc (Nat.le_refl _) _

set_option maxHeartbeats 1000000 in
theorem nibVal (c : Int) (w : World) (h0 : 0 ≤ c) (h1 : c < 256) : Calls Tryd.prog 155 #[.int .u8 c] w fun e w' => e = .returned (.int .i64 (nib c)) ∧ w' = w := by
  by_cases c1 : 48 ≤ c
  · by_cases c2 : c ≤ 57
    · have HV : Hid (nib c = c - 48) := by unfold Hid nib; rw [if_pos ⟨c1, c2⟩]
      go_enter Tryd.func155, Tryd.ntmps155
      go_wp2
      go_ret
      exact ⟨ret_int HV.out.symm, rfl⟩
    · by_cases c3 : 97 ≤ c
      · by_cases c4 : c ≤ 102
        · have HV : Hid (nib c = c - 97 + 10) := by unfold Hid nib; rw [if_neg (by omega), if_pos ⟨c3, c4⟩]; omega
          go_enter Tryd.func155, Tryd.ntmps155
          go_wp2
          go_ret
          exact ⟨ret_int HV.out.symm, rfl⟩
        · have HV : Hid (nib c = -1) := by unfold Hid nib; rw [if_neg (by omega), if_neg (by omega)]
          go_enter Tryd.func155, Tryd.ntmps155
          go_wp2
          go_ret
          exact ⟨ret_int HV.out.symm, rfl⟩
      · have HV : Hid (nib c = -1) := by unfold Hid nib; rw [if_neg (by omega), if_neg (by omega)]
        go_enter Tryd.func155, Tryd.ntmps155
        go_wp2
        go_ret
        exact ⟨ret_int HV.out.symm, rfl⟩
  · have c3 : ¬ 97 ≤ c := by omega
    have HV : Hid (nib c = -1) := by unfold Hid nib; rw [if_neg (by omega), if_neg (by omega)]
    go_enter Tryd.func155, Tryd.ntmps155
    go_wp2
    go_ret
    exact ⟨ret_int HV.out.symm, rfl⟩
end Go.Proofs.YtofflhhlacdgfaaDoor

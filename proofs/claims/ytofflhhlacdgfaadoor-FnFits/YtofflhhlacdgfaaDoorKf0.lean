/-
  What is proved here: bytes made of a string; what the specification's l8pub answers: some bytes.
-/
import Derived.Test.YtofflhhlacdgfaaDoorA1Hexr
import Derived.Lib.ConvBytes
namespace Go.Proofs.YtofflhhlacdgfaaDoor
open Go.RowKit
set_option maxRecDepth 100000
set_option maxHeartbeats 4000000
set_option linter.unusedVariables false

theorem bs_str (W : World) (s : ByteArray) : Bs (Lib.bytesWorld W 5 s) (some ⟨W.heap.size, 0, none⟩) s.size (grownCap W s.size 0 5) (s.data.toList.map fun b => (b.toNat : Int)) := by
  refine ⟨(fun h => by cases h), by simp, grownCap_ge _ _ _ _, fun x hx => ?_, .inr ⟨W.heap.size, 0, rfl, by rw [Lib.bytesWorld_size]; omega, fun j hj => ?_⟩⟩
  · rw [List.mem_map] at hx
    obtain ⟨b, _, rfl⟩ := hx
    have := b.toNat_lt
    omega
  · rw [Nat.zero_add, Lib.bytesWorld_cell W 5 s j hj]
    have hj' : j < s.data.toList.length := by simpa using hj
    congr 2
    simp [List.getD_eq_getElem?_getD, List.getElem?_eq_getElem hj']
theorem bel_str (W : World) (s : ByteArray) : Below W.heap.size W (Lib.bytesWorld W 5 s) :=
  ⟨rfl, rfl, rfl, by rw [Lib.bytesWorld_size]; omega, fun j hj => Lib.bytesWorld_at_old W 5 s j hj⟩
theorem hexStr (W : World) (s : ByteArray) (g n c : Nat) (hg : g = W.heap.size) (hn : n = s.size) (hc : c = grownCap W n 0 5) (h : n ≤ 8192) (h32 : (hexRd (s.data.toList.map fun b => (b.toNat : Int))).1.length = 32) :
    Calls Tryd.prog 144 #[.slice (some ⟨g, 0, none⟩) n c] (Lib.bytesWorld W 5 s) fun e w' => ∃ (v : Value) (xs : List Int) (b : Bool), e = .returned (.tuple #[v, .bool b]) ∧ w'.ownsRow W.heap.size 5 1 v xs.length (U8 xs) ∧ (∀ x ∈ xs, 0 ≤ x ∧ x < 256) ∧ xs.length = 32 ∧ Below W.heap.size W w' := by
  subst hg hn hc
  refine (specHexR _ _ _ _ _ (bs_str W s) (by omega)).mono ?_
  rintro e w2 ⟨v, rfl, o, hb⟩
  exact ⟨v, _, _, rfl, own_base o (bel_str W s).size, hexRd_byte _, h32, (bel_str W s).trans (hb.mono (bel_str W s).size)⟩
theorem specL8pub (i : Nat) (hi : i < 4) (w : World) :
    Calls Tryd.prog 135 #[.int .i64 (i : Int)] w fun e w' => ∃ (v : Value) (xs : List Int), e = .returned v ∧ w'.ownsRow w.heap.size 5 1 v xs.length (U8 xs) ∧ (∀ x ∈ xs, 0 ≤ x ∧ x < 256) ∧ xs.length = 32 ∧ Below w.heap.size w w' := by
  have hcv := fun (W : World) (s : ByteArray) => Lib.run_convert_string_bytes (P := Tryd.prog) W 9 22 5 s Tryd.underlying9 Tryd.underlying22 Tryd.underlying5
  have HB : Hid (∀ (o : Obj) w', Below (w.alloc o).heap.size (w.alloc o) w' → Below w.heap.size w w') := fun o w' h => ((Below.refl w.heap.size w).alloc (Nat.le_refl _) _).trans (h.mono (by simp))
  have hi2 : i = 0 ∨ i = 1 ∨ i = 2 ∨ i = 3 := by omega
  rcases hi2 with rfl | rfl | rfl | rfl
  all_goals
    go_enter Tryd.func135, Tryd.ntmps135
    go_wp2_with fail
    refine (hexStr _ _ _ _ _ (by simp) (by kernel_rfl) rfl (by omega) (by kernel_rfl)).mono ?_
    rintro e w2 ⟨v, xs, b, rfl, o, hy, hl, hb⟩
    have hb2 := HB.out _ _ hb
    have ho := own_base o (show w.heap.size ≤ _ by simp)
    have HO : Hid (w2.ownsRow w.heap.size 5 1 v xs.length (U8 xs)) := ho
    have HBB : Hid (Below w.heap.size w w2) := hb2
    clear hcv HB o hb hb2 ho
    go_wp2
    go_ret
    exact ⟨_, _, rfl, HO.out, hy, hl, HBB.out⟩
end Go.Proofs.YtofflhhlacdgfaaDoor

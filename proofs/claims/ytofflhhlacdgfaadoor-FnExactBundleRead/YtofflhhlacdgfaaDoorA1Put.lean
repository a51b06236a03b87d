/-
  What is proved here: contracts of the library's slices.Grow (at the nil slice), slices.Concat (at two slices) and bytes.Clone, and of the program's PutNum, for slices of at most 2^22 bytes.
-/
import Derived.Test.YtofflhhlacdgfaaDoorA1Num
import Derived.Test.YtofflhhlacdgfaaDoorJM11
import Derived.WalkSpells
namespace Go.Proofs.YtofflhhlacdgfaaDoor
open Go.RowKit
open Ma
set_option maxRecDepth 100000

theorem Tryd.alen151 : Tryd.prog.arrayLen 151 = 5 := by kernel_rfl
theorem Tryd.elem151 : Tryd.prog.elem 151 = 5 := by kernel_rfl

theorem cut5 (w : World) (b k : Nat) (hk : k ≤ 5) : (Instr.sliceAt 151 (.pointer (some ⟨b, 0, none⟩)) none (some (.int .i64 (k : Int))) none).run Tryd.prog w = .ok (.slice (some ⟨b, 0, none⟩) k 5) w := by
  obtain ⟨i0, hi, hz0, hz1, hz2⟩ := info_parts Tryd.info5
  have h := run_sliceAt_array_h (P := Tryd.prog) w 151 ⟨b, 0, none⟩ (by rw [Tryd.alen151, Tryd.elem151]; exact Tryd.underlying151) .i64 (k : Int) (by omega) (by rw [Tryd.alen151]; omega)
  rw [h, Tryd.elem151, Tryd.alen151]
  simp [sizeOf, typeInfo, hi, hz1, slicedAt, Result.andThen, Addr.add_lit]

theorem Bs.arr5 (w : World) (x0 x1 x2 x3 x4 : Int) (k : Nat) (hk : k ≤ 5) (D : List Int) (hD : [x0, x1, x2, x3, x4].take k = D) (hby : ∀ x ∈ D, 0 ≤ x ∧ x < 256) :
    Bs (w.alloc (.cells #[.int .u8 x0, .int .u8 x1, .int .u8 x2, .int .u8 x3, .int .u8 x4] 151)) (some ⟨w.heap.size, 0, none⟩) k 5 D := by
  subst hD
  refine ⟨(fun h => by cases h), by simp; omega, hk, hby, .inr ⟨w.heap.size, 0, rfl, by simp, fun j hj => ?_⟩⟩
  rw [World.cell?_alloc_at _ _ _ _ rfl]
  have e : ([x0, x1, x2, x3, x4].take k).getD j 0 = [x0, x1, x2, x3, x4].getD j 0 := by simp [hj]
  rw [e]
  have h5 : j = 0 ∨ j = 1 ∨ j = 2 ∨ j = 3 ∨ j = 4 := by omega
  rcases h5 with rfl | rfl | rfl | rfl | rfl <;> rfl

set_option maxHeartbeats 1000000 in
theorem implPut (a : Option Addr) (n c : Nat) (xs : List Int) (N : Int) (w : World) (h : Bs w a n c xs) (hn : n ≤ 2097152) :
    Calls Tryd.prog 99 #[.slice a n c, .int .i64 N] w fun e w' => ∃ v, e = .returned v ∧ w'.ownsRow w.heap.size 5 1 v (n + (numB N).length) (U8 (xs ++ numB N)) ∧ Below w.heap.size w w' := by
  have HP := split_all N w
  have hk := numB_len N
  have hby := numB_byte N
  have htk : (pad N).take (numB N).length = numB N := by simp [pad]
  obtain ⟨x0, x1, x2, x3, x4, hx⟩ := five (pad N) (pad_len N)
  rw [hx] at HP htk
  obtain ⟨k, hkk⟩ : ∃ k, k = (numB N).length := ⟨_, rfl⟩
  rw [← hkk] at HP hk htk ⊢
  have HK : Hid (k = (numB N).length) := hkk
  have HT : Hid _ := htk
  clear hx hkk htk
  generalize numB N = D at HK HT hby ⊢
  go_enter Tryd.func99, Tryd.ntmps99
  go_wp2_with fail
  refine HP.mono ?_
  rintro e w1 ⟨rfl, b1⟩
  clear HP
  have s1 := b1.size
  have hcut := fun w b => cut5 w b k hk
  simp only [U8, List.map_cons, List.map_nil]
  go_wp2_with fail
  clear hcut
  have bA := (Below.refl w1.heap.size w1).alloc (Nat.le_refl _) (Obj.cells #[Value.int IntKind.u8 x0, Value.int IntKind.u8 x1, Value.int IntKind.u8 x2, Value.int IntKind.u8 x3, Value.int IntKind.u8 x4] 151)
  have bB := (Below.refl _ (w1.alloc (Obj.cells #[Value.int IntKind.u8 x0, Value.int IntKind.u8 x1, Value.int IntKind.u8 x2, Value.int IntKind.u8 x3, Value.int IntKind.u8 x4] 151))).alloc (Nat.le_refl _) (Obj.cells #[Value.slice a n c, Value.slice (some { block := w1.heap.size, off := 0 }) k 5] 22)
  have g2 := (b1.trans (bA.mono s1))
  have g3 := g2.trans (bB.mono g2.size)
  have hD := (Bs.arr5 w1 x0 x1 x2 x3 x4 k hk D HT.out hby).below bB
  refine (concat2 (w1.heap.size + 1) a (some ⟨w1.heap.size, 0, none⟩) n c k 5 xs D _ (by simp) (by rw [World.cell?_alloc_at _ _ _ _ (by simp)]; rfl) (by rw [World.cell?_alloc_at _ _ _ _ (by simp)]; rfl) (h.below g3) hD (by omega) (by omega)).mono ?_
  rintro e w2 ⟨v, rfl, hown, b2⟩
  have g4 := g3.trans (b2.mono g3.size)
  have hown' := own_base hown g3.size
  clear hown b2 g3 g2 bA bB hD h
  go_wp2
  go_ret
  exact ⟨_, rfl, hown', g4⟩
end Go.Proofs.YtofflhhlacdgfaaDoor

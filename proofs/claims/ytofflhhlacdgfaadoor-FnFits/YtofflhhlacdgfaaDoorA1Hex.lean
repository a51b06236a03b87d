/-
  What is proved here: contracts of the specification's and of the program's Hex, for every slice of at most 2^20 bytes.
-/
import Derived.Test.YtofflhhlacdgfaaDoorJP1
import Derived.Laws.BitsLemmas
import Derived.Deep.RegionHeld3
import Derived.Deep.AppendLies
namespace Go.Proofs.YtofflhhlacdgfaaDoor
open Go.RowKit
set_option maxRecDepth 100000

/-- A digit's byte. -/
def hexd (k : Int) : Int := if k < 10 then 48 + k else 87 + k
def hexL (xs : List Int) : List Int := xs.flatMap (fun x => [hexd (x / 16), hexd (x % 16)])
/-- The digits, where there are not too many. -/
def hexOf (xs : List Int) : List Int := if 4096 < xs.length then [] else hexL xs

theorem hexL_len (xs : List Int) : (hexL xs).length = 2 * xs.length := by
  induction xs with
  | nil => rfl
  | cons x xs ih => simp only [hexL, List.flatMap_cons, List.length_append, List.length_cons, List.length_nil] at ih ⊢; omega
theorem hexL_snoc (xs : List Int) (k : Nat) (h : k < xs.length) : hexL (xs.take (k + 1)) = hexL (xs.take k) ++ [hexd (xs.getD k 0 / 16), hexd (xs.getD k 0 % 16)] := by
  rw [take_snoc xs k h]; simp [hexL]
theorem hexd_byte (k : Int) (h0 : 0 ≤ k) (h1 : k < 16) : 0 ≤ hexd k ∧ hexd k < 256 := by unfold hexd; split <;> omega
theorem hexL_byte (xs : List Int) (h : ∀ x ∈ xs, 0 ≤ x ∧ x < 256) : ∀ y ∈ hexL xs, 0 ≤ y ∧ y < 256 := by
  intro y hy
  simp only [hexL, List.mem_flatMap, List.mem_cons, List.not_mem_nil, or_false] at hy
  obtain ⟨x, hx, hy⟩ := hy
  have := h x hx
  rcases hy with rfl | rfl
  · exact hexd_byte _ (by omega) (by omega)
  · exact hexd_byte _ (by omega) (by omega)

theorem index_hex (w : World) (k : Int) (h0 : 0 ≤ k) (h1 : k < 16) :
    (Instr.index 9 (.string ⟨#[48, 49, 50, 51, 52, 53, 54, 55, 56, 57, 97, 98, 99, 100, 101, 102]⟩) (.int .u8 k)).run Tryd.prog w = .ok (.int .u8 (hexd k)) w := by
  have hk : k = 0 ∨ k = 1 ∨ k = 2 ∨ k = 3 ∨ k = 4 ∨ k = 5 ∨ k = 6 ∨ k = 7 ∨ k = 8 ∨ k = 9 ∨ k = 10 ∨ k = 11 ∨ k = 12 ∨ k = 13 ∨ k = 14 ∨ k = 15 := by omega
  rcases hk with rfl | rfl | rfl | rfl | rfl | rfl | rfl | rfl | rfl | rfl | rfl | rfl | rfl | rfl | rfl | rfl
  all_goals (show _ = _; kernel_rfl)

set_option maxHeartbeats 1000000 in
theorem implHex (a : Option Addr) (n c : Nat) (xs : List Int) (w : World) (h : Bs w a n c xs) (hn : n ≤ 1048576) :
    Calls Tryd.prog 75 #[.slice a n c] w fun e w' => ∃ v, e = .returned v ∧ w'.ownsRow w.heap.size 5 1 v (hexOf xs).length (U8 (hexOf xs)) ∧ Below w.heap.size w w' := by
  obtain ⟨i0, hi, hz0, hz1, hz2⟩ := info_parts Tryd.info5
  obtain ⟨_, hl, hc, hby, h⟩ := h
  by_cases hbig : (4096 : Int) < (n : Int)
  · have e : hexOf xs = [] := by unfold hexOf; rw [if_pos (by omega)]
    rw [e]
    go_enter Tryd.func75, Tryd.ntmps75
    go_wp2
    go_ret
    exact ⟨_, rfl, World.ownsRow_nil _ _ _ _, Below.refl _ _⟩
  have e : hexOf xs = hexL xs := by unfold hexOf; rw [if_neg (by omega)]
  rw [e, hexL_len, hl]
  clear e
  go_enter Tryd.func75, Tryd.ntmps75
  go_wp2_with (at_make; refine wpList_make_own _ rfl _ _ 22 rfl w.heap.size 5 i0 (.int .u8 0) 1 Tryd.underlying22 hi hz0 hz1 .i64 .i64 (2 * (n : Int)) (2 * n) rfl rfl (by omega) (by rw [hz2]; omega) (by unfold maxLen; omega) (Nat.le_refl _) ?_; intro w1 hown1 hgrow1)
  have hbel1 : Below w.heap.size w w1 := (Below.refl _ _).grown hgrow1 (Nat.le_refl _) (by intro k hk; cases hk)
  clear hgrow1
  go_loopw [3, 15] (fun v i wr => ∃ k : Nat, k ≤ n ∧ i = .int .i64 k ∧ wr.ownsRow w.heap.size 5 1 v (2 * k) (U8 (hexL (xs.take k))) ∧ Below w.heap.size w wr) (fun _ i _ => n - (intOf i).toNat)
  case atStart => exact ⟨0, Nat.zero_le _, rfl, by simpa [hexL] using hown1, hbel1⟩
  case round =>
    obtain ⟨k, hk, rfl, hown, hb⟩ := hrel
    clear hown1 hbel1
    by_cases hlt : k < n
    · rcases h with h | ⟨b, o, rfl, hbs, hcell⟩
      · omega
      obtain ⟨x, hx⟩ : ∃ x, x = xs.getD k 0 := ⟨_, rfl⟩
      have hck : wr.cell? ⟨b, o + k, none⟩ = some (.int .u8 x) := by rw [hx]; exact (hb.cell (p := ⟨b, o + k, none⟩) hbs).trans (hcell k hlt)
      have hxb : 0 ≤ x ∧ x < 256 := by rw [hx]; exact get_byte hby (by omega)
      obtain ⟨hx0, hx1⟩ := hxb
      have HX : Hid (x = xs.getD k 0) := hx
      have hnx := hexL_snoc xs k (by omega)
      rw [← hx] at hnx
      have HN : Hid _ := hnx
      clear hcell hx hby hnx
      have hand : bits BinOp.and IntKind.u8 x 15 = x % 16 := u8_and15 x hx0 hx1
      have ix1 := fun w => index_hex w (x / 16) (by omega) (by omega)
      have ix2 := fun w => index_hex w (x % 16) (by omega) (by omega)
      have hsz := hb.size
      go_wp2
      go_region_held3 (fun _ => True) (trivial)
        ((refine step_append_lies _ (by rfl) _ _ _ (by rfl) w.heap.size 5 i0 _ 1 1 Tryd.underlying22 hi hz0 hz1 hz2 rfl (by omega) u3 (2 * k) (U8 (hexL (xs.take k))) (by rfl) ((hown.alloc _).drew)
            ⟨wr.heap.size, 0, none⟩ 2 2 (U8 [hexd (x / 16), hexd (x % 16)]) (by rfl) (by rfl) (World.news_of_block (cs := #[.int .u8 (hexd (x / 16)), .int .u8 (hexd (x % 16))]) (t := 5) (fr := (0, 0)) (heap_alloc_new wr _)) (by simp [Value.oneCell'])
            (by omega) (by unfold maxLen; omega) (by omega) (by simp; omega) (wr.heap.size + 1) (by simp) ?_; intro gg cap w1 hown1 hgrow hat hlt))
      all_goals
        have hb2 : Below w.heap.size w w1 := ((hb.alloc (by omega) _).drew).grown hgrow (by simp; omega) (fun j hj => (hown.lt j hj).1)
        have HR : Hid (w1.ownsRow w.heap.size 5 1 (.slice (some ⟨gg, 0, none⟩) (2 * k + 2) cap) (2 * (k + 1)) (U8 (hexL (xs.take (k + 1))))) := by
          unfold Hid
          rw [HN.out]
          have e2 : 2 * (k + 1) = 2 * k + 2 := by omega
          rw [e2]
          simpa using hown1
        clear hown1 hgrow hown hb hat hlt ix1 ix2 hand
        go_wp2
        exact ⟨⟨k + 1, by omega, by go_num, HR.out, hb2⟩, by simp [intOf]; omega⟩
    · have hkn : k = n := by omega
      subst hkn
      go_wp2
      go_ret
      refine ⟨_, rfl, ?_, hb⟩
      simpa [List.take_of_length_le (show xs.length ≤ k by omega)] using hown

end Go.Proofs.YtofflhhlacdgfaaDoor

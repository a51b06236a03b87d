/-
  What is proved here: contracts of two helpers of the exact laws (mark a slice of bytes, look whether the marks are held), for every slice of at most 2^21 bytes.
-/
import Derived.Test.YtgfjbaigmkdbcaaSmE
namespace Go.Proofs.Ytgfjbaigmkdbcaa
open Go.RowKit

/-- The marks: k0, k0 + 1, .. as bytes. -/
def marks (k0 : Int) (n : Nat) : List Int := (List.range n).map (fun j : Nat => (k0 + (j : Int)) % 256)
theorem marks_len (k0 : Int) (n : Nat) : (marks k0 n).length = n := by simp [marks]
theorem marks_get (k0 : Int) (n k : Nat) (h : k < n) : (marks k0 n).getD k 0 = (k0 + (k : Int)) % 256 := by simp [marks, h]
theorem marks_byte (k0 : Int) (n : Nat) : ∀ x ∈ marks k0 n, 0 ≤ x ∧ x < 256 := by
  intro x hx; simp only [marks, List.mem_map] at hx; obtain ⟨j, _, rfl⟩ := hx; omega
theorem set_marks (xs : List Int) (k0 : Int) (n k : Nat) (h : k < n) (hn : xs.length = n) :
    (U8 (marks k0 k ++ xs.drop k)).set k (.int .u8 ((k0 + (k : Int)) % 256)) = U8 (marks k0 (k + 1) ++ xs.drop (k + 1)) := by
  have e : xs.drop k = xs.getD k 0 :: xs.drop (k + 1) := by
    rw [List.drop_eq_getElem_cons (by omega)]; simp [show k < xs.length by omega]
  have e2 : marks k0 (k + 1) = marks k0 k ++ [(k0 + (k : Int)) % 256] := by simp [marks, List.range_succ]
  rw [e, e2]
  simp only [U8, List.map_append, List.map_cons]
  rw [List.set_append_right _ _ (by simp [marks_len])]
  simp [marks_len]

set_option maxHeartbeats 400000 in
theorem markB (B n : Nat) (v : Value) (k0 : Int) (xs : List Int) (w : World) (hown : w.ownsRow B 5 1 v n (U8 xs)) (hn : n ≤ 2097152) (h0 : 0 ≤ k0) (h1 : k0 ≤ 4611686018427387904) :
    Calls Try.prog 24 #[v, .int .i64 k0] w fun e w' => e = .returned (.int .i64 (k0 + n)) ∧ w'.ownsRow B 5 1 v n (U8 (marks k0 n)) ∧ w.grownBy w' v.ownBlock := by
  obtain ⟨hl, hs⟩ := own_shape hown
  rcases hs with ⟨rfl, rfl⟩ | ⟨g, cap, rfl, hg, hgs, hnc, hcm, hc, hf⟩
  · go_enter Try.func24, Try.ntmps24
    go_wp2
    refine wp_loop_rounds 1 ?_
    rw [rounds_succ]
    go_wp2
    go_ret
    exact ⟨by simp, by simpa [marks] using World.ownsRow_nil w B 5 1, World.grownBy.refl _ _⟩
  · have hown0 : w.ownsRow B 5 1 (.slice (some ⟨g, 0, none⟩) n cap) n (U8 (marks k0 0 ++ xs.drop 0)) := by simpa [marks] using hown
    clear hown hc hf
    go_enter Try.func24, Try.ntmps24
    go_wp2
    go_loopw [1, 5] (fun m i wr => ∃ k : Nat, k ≤ n ∧ i = .int .i64 k ∧ m = .int .i64 (k0 + k) ∧ wr.ownsRow B 5 1 (.slice (some ⟨g, 0, none⟩) n cap) n (U8 (marks k0 k ++ xs.drop k)) ∧ w.grownBy wr (some g)) (fun _ i _ => n - (intOf i).toNat)
    case atStart => exact ⟨0, Nat.zero_le _, rfl, by simp, hown0, World.grownBy.refl _ _⟩
    case round =>
      obtain ⟨k, hk, rfl, rfl, hown, hb⟩ := hrel
      clear hown0
      by_cases hlt : k < n
      · have hfz := hown.frozenAt k
        obtain ⟨u, hu⟩ : ∃ u, wr.cell? ⟨g, k, none⟩ = some u := by
          rw [hown.cellAt k (by omega)]
          have : k < (U8 (marks k0 k ++ xs.drop k)).length := by simp [marks_len]; omega
          exact ⟨_, List.getElem?_eq_getElem this⟩
        have hst := hown.stored k (.int .u8 ((k0 + (k : Int)) % 256))
        rw [set_marks xs k0 n k hlt hl] at hst
        have HS : Hid _ := hst
        have HB : Hid _ := hb
        have hcv : IntKind.u8.wrap (k0 + (k : Int)) = (k0 + (k : Int)) % 256 := by simp [IntKind.wrap, IntKind.signed, IntKind.bits]
        clear hst hb hown
        go_wp2
        go_roundw
        case rel => exact ⟨k + 1, by omega, by go_num, by go_num, HS.out.1, grown_trans HB.out HS.out.2⟩
        case measure => simp [intOf]; omega
      · have hkn : k = n := by omega
        subst hkn
        go_wp2
        go_ret
        refine ⟨rfl, ?_, hb⟩
        simpa [List.drop_eq_nil_of_le (show xs.length ≤ k by omega)] using hown

set_option maxHeartbeats 400000 in
theorem heldB (a : Option Addr) (n cap : Nat) (k0 : Int) (w : World) (h : Bs w a n cap (marks k0 n)) (hn : n ≤ 2097152) (h0 : 0 ≤ k0) (h1 : k0 ≤ 4611686018427387904) :
    Calls Try.prog 25 #[.slice a n cap, .int .i64 k0] w fun e w' => e = .returned (.int .i64 (k0 + n)) ∧ w' = w := by
  obtain ⟨_, hl, hc, _, h⟩ := h
  go_enter Try.func25, Try.ntmps25
  go_wp2
  go_loop [1, 5] (fun m i => ∃ k : Nat, k ≤ n ∧ i = .int .i64 k ∧ m = .int .i64 (k0 + k)) (fun _ i => n - (intOf i).toNat)
  case atStart => exact ⟨0, Nat.zero_le _, rfl, by simp⟩
  case round =>
    obtain ⟨k, hk, rfl, rfl⟩ := hrel
    by_cases hlt : k < n
    · rcases h with h | ⟨b, o, rfl, hbs, hcell⟩
      · omega
      · have hck : w.cell? ⟨b, o + k, none⟩ = some (.int .u8 ((k0 + (k : Int)) % 256)) := by rw [← marks_get k0 n k hlt]; exact hcell k hlt
        have hcv : IntKind.u8.wrap (k0 + (k : Int)) = (k0 + (k : Int)) % 256 := by simp [IntKind.wrap, IntKind.signed, IntKind.bits]
        have hxx : (((k0 + (k : Int)) % 256) != ((k0 + (k : Int)) % 256)) = false := by simp
        clear hcell
        go_wp2
        go_round
        case rel => exact ⟨k + 1, by omega, by go_num, by go_num⟩
        case measure => simp [intOf]; omega
    · have hkn : k = n := by omega
      subst hkn
      go_wp2
      go_ret
      exact ⟨rfl, rfl⟩
end Go.Proofs.Ytgfjbaigmkdbcaa

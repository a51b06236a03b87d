/-
  What is proved here: what the specification's functions that only read a flash answer: FlashOk, l9in, l9blank, l9mask.
-/
import Derived.Test.YtcnlpdpbkkjkoaaF9a
namespace Go.Proofs.Ytcnlpdpbkkjkoaa
set_option maxRecDepth 100000
open Go.RowKit

def wrOk (ws : List Int) : Bool := decide (∀ x ∈ ws, 0 ≤ x ∧ x ≤ 200)
/-- The document's FlashOk. -/
def flOk (bs ws : List Int) : Bool := decide (bs.length = 3072) && (decide (ws.length = 48) && wrOk ws)
def inF (i n : Int) : Bool := decide (0 ≤ i) && (decide (0 ≤ n) && decide (n ≤ 3072 - i))
def blk (xs : List Int) : Bool := decide (∀ x ∈ xs, x = 255)
def mk (ms : List Int) (i : Nat) : Int := if ms.length = 0 then 0 else ms.getD (i % ms.length) 0

theorem wr_get {ws : List Int} (h : wrOk ws = true) {k : Nat} (hk : k < ws.length) : 0 ≤ ws.getD k 0 ∧ ws.getD k 0 ≤ 200 := by
  have e : ws.getD k 0 = ws[k] := by simp [hk]
  rw [e]
  exact (of_decide_eq_true h) _ (List.getElem_mem hk)
theorem all_take {P : Int → Prop} {xs : List Int} {k : Nat} (h : ∀ x ∈ xs.take k, P x) (hk : k < xs.length) (hp : P (xs.getD k 0)) : ∀ x ∈ xs.take (k + 1), P x := by
  rw [take_snoc xs k hk]
  intro x hx
  rcases List.mem_append.1 hx with hx | hx
  · exact h x hx
  · simp only [List.mem_singleton] at hx; subst hx; exact hp
theorem not_all {P : Int → Prop} {xs : List Int} {k : Nat} (hk : k < xs.length) (hp : ¬ P (xs.getD k 0)) : ¬ ∀ x ∈ xs, P x := fun h => hp (by
  have e : xs.getD k 0 = xs[k] := by simp [hk]
  rw [e]; exact h _ (List.getElem_mem hk))

set_option maxHeartbeats 1000000 in
theorem specFlashOk (aB : Option Addr) (nB cB : Nat) (aW : Option Addr) (nW cW : Nat) (bs ws : List Int) (w : World) (hB : Bs w aB nB cB bs) (hW : Is w aW nW cW ws) (hn : nB ≤ 2097152) (hm : nW ≤ 2097152) :
    Calls Try.prog 17 #[flV aB nB cB aW nW cW] w fun e w' => e = .returned (.bool (flOk bs ws)) ∧ Below w.heap.size w w' := by
  have hbl := hB.2.1
  have hwl := hW.2.1
  have HB : Hid (Below w.heap.size w (w.alloc (.cells #[.slice aB nB cB, .slice aW nW cW] 25))) := (Below.refl _ _).alloc (Nat.le_refl _) _
  have HA : Hid (Arr (w.alloc (.cells #[.slice aB nB cB, .slice aW nW cW] 25)) w.heap.size 25 [.slice aB nB cB, .slice aW nW cW]) := Arr.new _ _ _
  have hW' := hW.below HB.out
  clear hB hW
  by_cases h1 : nB = 3072
  · by_cases h2 : nW = 48
    · have h1' : ((nB : Int) != 3072) = false := by subst h1; rfl
      have h2' : ((nW : Int) != 48) = false := by subst h2; rfl
      have HE : Hid (flOk bs ws = wrOk ws) := by unfold Hid flOk; simp [hbl, hwl, h1, h2]
      obtain ⟨_, _, _, _, h⟩ := hW'
      rcases h with h | ⟨b, o, rfl, hb, hc⟩
      · omega
      clear h1 h2
      obtain ⟨V, hV⟩ : ∃ V, V = w.alloc (.cells #[.slice aB nB cB, .slice (some ⟨b, o, none⟩) nW cW] 25) := ⟨_, rfl⟩
      rw [← hV] at hb hc HA HB
      have c1 := Arr.cell HA.out 1
      simp at c1
      have HC : Hid _ := hc
      clear hc hb
      go_enter Try.func17, Try.ntmps17
      go_wp2
      rw [← hV]
      clear hV
      go_loop [3] (fun i => ∃ k : Nat, k ≤ nW ∧ i = .int .i64 k ∧ ∀ x ∈ ws.take k, 0 ≤ x ∧ x ≤ 200) (fun i => nW - (intOf i).toNat)
      case atStart => exact ⟨0, Nat.zero_le _, rfl, by simp⟩
      case round =>
        obtain ⟨k, hk, rfl, hall⟩ := hrel
        have HL : Hid _ := hall
        clear hall
        by_cases hlt : k < nW
        · obtain ⟨x, hx⟩ : ∃ x, x = ws.getD k 0 := ⟨_, rfl⟩
          have hck : V.cell? ⟨b, o + k, none⟩ = some (.int .i64 x) := by rw [hx]; exact HC.out k hlt
          have HX : Hid _ := hx
          clear hx
          by_cases g1 : x < 0
          · go_wp2
            go_ret
            refine ⟨?_, HB.out⟩
            rw [HE.out]
            have : wrOk ws = false := by
              unfold wrOk; rw [decide_eq_false_iff_not]
              exact not_all (k := k) (by omega) (by rw [← HX.out]; omega)
            rw [this]; rfl
          by_cases g2 : 200 < x
          · go_wp2
            go_ret
            refine ⟨?_, HB.out⟩
            rw [HE.out]
            have : wrOk ws = false := by
              unfold wrOk; rw [decide_eq_false_iff_not]
              exact not_all (k := k) (by omega) (by rw [← HX.out]; omega)
            rw [this]; rfl
          go_wp2
          go_round
          case rel => exact ⟨k + 1, by omega, by go_num, all_take HL.out (by omega) (by rw [← HX.out]; omega)⟩
          case measure => simp [intOf]; omega
        · have hkn : k = nW := by omega
          subst hkn
          go_wp2
          go_ret
          refine ⟨?_, HB.out⟩
          rw [HE.out]
          have : wrOk ws = true := by
            unfold wrOk; rw [decide_eq_true_eq]
            have := HL.out
            rwa [List.take_of_length_le (by omega)] at this
          rw [this]; rfl
    · have h1' : ((nB : Int) != 3072) = false := by subst h1; rfl
      have h2' : ((nW : Int) != 48) = true := by simp; omega
      have HE : Hid (flOk bs ws = false) := by unfold Hid flOk; simp [hbl, hwl, h1, h2]
      clear h1 h2
      go_enter Try.func17, Try.ntmps17
      go_wp2
      go_ret
      exact ⟨by rw [HE.out]; rfl, HB.out⟩
  · have h1' : ((nB : Int) != 3072) = true := by simp; omega
    have HE : Hid (flOk bs ws = false) := by unfold Hid flOk; simp [hbl, h1]
    go_enter Try.func17, Try.ntmps17
    go_wp2
    go_ret
    exact ⟨by rw [HE.out]; rfl, HB.out⟩

set_option maxHeartbeats 1000000 in
theorem specIn (i n : Int) (w : World) (h0 : -9223372036854775808 ≤ i) (h1 : i ≤ 9223372036854775807) (h2 : -9223372036854775808 ≤ n) (h3 : n ≤ 9223372036854775807) :
    Calls Try.prog 79 #[.int .i64 i, .int .i64 n] w fun e w' => e = .returned (.bool (inF i n)) ∧ w' = w := by
  by_cases g0 : 0 ≤ i
  · by_cases g1 : 0 ≤ n
    · by_cases g2 : i ≤ 3072
      · have e : inF i n = decide (n ≤ 3072 - i) := by unfold inF; simp [g0, g1]
        rw [e]
        have hw : wrap64 (3072 - i) = 3072 - i := by unfold wrap64; omega
        go_enter Try.func79, Try.ntmps79
        go_wp2
        go_ret
        exact ⟨by simp, rfl⟩
      · have e : inF i n = false := by unfold inF; simp; omega
        rw [e]
        go_enter Try.func79, Try.ntmps79
        go_wp2
        go_ret
        exact ⟨rfl, rfl⟩
    · have e : inF i n = false := by unfold inF; simp [g1]
      rw [e]
      go_enter Try.func79, Try.ntmps79
      go_wp2
      go_ret
      exact ⟨rfl, rfl⟩
  · have e : inF i n = false := by unfold inF; simp [g0]
    rw [e]
    go_enter Try.func79, Try.ntmps79
    go_wp2
    go_ret
    exact ⟨rfl, rfl⟩

set_option maxHeartbeats 1000000 in
theorem specBlankB (a : Option Addr) (n cap : Nat) (xs : List Int) (w : World) (h : Bs w a n cap xs) (hn : n ≤ 2097152) :
    Calls Try.prog 80 #[.slice a n cap] w fun e w' => e = .returned (.bool (blk xs)) ∧ w' = w := by
  obtain ⟨_, hl, hc, _, h⟩ := h
  go_enter Try.func80, Try.ntmps80
  go_wp2
  go_loop [3] (fun i => ∃ k : Nat, k ≤ n ∧ i = .int .i64 k ∧ ∀ x ∈ xs.take k, x = 255) (fun i => n - (intOf i).toNat)
  case atStart => exact ⟨0, Nat.zero_le _, rfl, by simp⟩
  case round =>
    obtain ⟨k, hk, rfl, hall⟩ := hrel
    have HL : Hid _ := hall
    clear hall
    by_cases hlt : k < n
    · rcases h with h | ⟨b, o, rfl, hbs, hcell⟩
      · omega
      obtain ⟨x, hx⟩ : ∃ x, x = xs.getD k 0 := ⟨_, rfl⟩
      have hck : w.cell? ⟨b, o + k, none⟩ = some (.int .u8 x) := by rw [hx]; exact hcell k hlt
      have HX : Hid _ := hx
      clear hx hcell
      by_cases g1 : x = 255
      · have g1' : (x != 255) = false := by rw [g1]; rfl
        have G1 : Hid _ := g1
        clear g1
        go_wp2
        go_round
        case rel => exact ⟨k + 1, by omega, by go_num, all_take HL.out (by omega) (by rw [← HX.out]; exact G1.out)⟩
        case measure => simp [intOf]; omega
      · have g1' : (x != 255) = true := by simpa using g1
        go_wp2
        go_ret
        have : blk xs = false := by
          unfold blk; rw [decide_eq_false_iff_not]
          exact not_all (k := k) (by omega) (by rw [← HX.out]; exact g1)
        exact ⟨by rw [this]; rfl, rfl⟩
    · have hkn : k = n := by omega
      subst hkn
      go_wp2
      go_ret
      have : blk xs = true := by
        unfold blk; rw [decide_eq_true_eq]
        have := HL.out
        rwa [List.take_of_length_le (by omega)] at this
      exact ⟨by rw [this]; rfl, rfl⟩

set_option maxHeartbeats 1000000 in
theorem specMask (a : Option Addr) (n cap : Nat) (xs : List Int) (i : Nat) (w : World) (h : Bs w a n cap xs) (hn : n ≤ 2097152) (hi : i ≤ 2097152) :
    Calls Try.prog 96 #[.slice a n cap, .int .i64 i] w fun e w' => e = .returned (.int .u8 (mk xs i)) ∧ w' = w := by
  obtain ⟨_, hl, hc, _, h⟩ := h
  by_cases h0 : n = 0
  · subst h0
    have e : mk xs i = 0 := by unfold mk; simp [hl]
    rw [e]
    go_enter Try.func96, Try.ntmps96
    go_wp2
    go_ret
    exact ⟨rfl, rfl⟩
  · rcases h with h | ⟨b, o, rfl, hbs, hcell⟩
    · exact absurd h h0
    have hr : (i : Int).tmod (n : Int) = ((i % n : Nat) : Int) := by rw [Int.tmod_eq_emod_of_nonneg (by omega)]; rfl
    have hlt : i % n < n := Nat.mod_lt _ (by omega)
    have e : mk xs i = xs.getD (i % n) 0 := by unfold mk; rw [if_neg (by omega), hl]
    have hck : w.cell? ⟨b, o + i % n, none⟩ = some (.int .u8 (mk xs i)) := by rw [e]; exact hcell (i % n) hlt
    clear e
    have h0' : ((n : Int) == 0) = false := by simp; omega
    have h0'' : (n : Int) ≠ 0 := by omega
    clear hcell
    generalize mk xs i = y at *
    generalize i % n = j at *
    go_enter Try.func96, Try.ntmps96
    go_wp2
    go_ret
    exact ⟨rfl, rfl⟩
end Go.Proofs.Ytcnlpdpbkkjkoaa

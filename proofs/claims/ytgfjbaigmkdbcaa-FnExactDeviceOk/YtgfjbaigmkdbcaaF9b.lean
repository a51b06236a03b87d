/-
  What is proved here: what the specification's functions that only read a flash answer: FlashOk, l9in, l9blank, l9mask.
-/
import Derived.Test.YtgfjbaigmkdbcaaF9a0
import Derived.Test.YtgfjbaigmkdbcaaSmA
import Derived.Test.YtgfjbaigmkdbcaaSmAI
import Derived.Test.YtgfjbaigmkdbcaaC0o
namespace Go.Proofs.Ytgfjbaigmkdbcaa
set_option maxRecDepth 100000
open Go.RowKit

def wrOk (ws : List Int) : Bool := decide (∀ x ∈ ws, 0 ≤ x ∧ x ≤ 200)
/-- The document's FlashOk. -/
def flOk (bs ws : List Int) : Bool := decide (bs.length = 3072) && (decide (ws.length = 48) && wrOk ws)
def inF (i n : Int) : Bool := decide (0 ≤ i) && (decide (0 ≤ n) && decide (n ≤ 3072 - i))
def mk (ms : List Int) (i : Nat) : Int := if ms.length = 0 then 0 else ms.getD (i % ms.length) 0

theorem wr_get {ws : List Int} (h : wrOk ws = true) {k : Nat} (hk : k < ws.length) : 0 ≤ ws.getD k 0 ∧ ws.getD k 0 ≤ 200 := by
  have e : ws.getD k 0 = ws[k] := by simp [hk]
  rw [e]
  exact (of_decide_eq_true h) _ (List.getElem_mem hk)
set_option maxHeartbeats 1000000 in
theorem specFlashOk (aB : Option Addr) (nB cB : Nat) (aW : Option Addr) (nW cW : Nat) (bs ws : List Int) (w : World) (hB : Bs w aB nB cB bs) (hW : Is w aW nW cW ws) (hn : nB ≤ 2097152) (hm : nW ≤ 2097152) :
    Calls Try.prog 113 #[flV aB nB cB aW nW cW] w fun e w' => e = .returned (.bool (flOk bs ws)) ∧ Below w.heap.size w w' := by
  have hbl := hB.2.1
  have hwl := hW.2.1
  have HB : Hid (Below w.heap.size w (w.alloc (.cells #[.slice aB nB cB, .slice aW nW cW] 68))) := (Below.refl _ _).alloc (Nat.le_refl _) _
  have HA : Hid (Arr (w.alloc (.cells #[.slice aB nB cB, .slice aW nW cW] 68)) w.heap.size 68 [.slice aB nB cB, .slice aW nW cW]) := Arr.new _ _ _
  have hW' := hW.below HB.out
  clear hB hW
  by_cases h1 : nB = 3072
  · by_cases h2 : nW = 48
    · have h1' : ((nB : Int) != 3072) = false := by subst h1; rfl
      have h2' : ((nW : Int) != 48) = false := by subst h2; rfl
      have HE : Hid (flOk bs ws = wrOk ws) := by unfold Hid flOk; simp [hbl, hwl, h1, h2]
      obtain ⟨_, _, _, _, h⟩ := hW'
      rcases h with h | ⟨b, o, rfl, hb, hc⟩
      · omega
      clear h1 h2
      obtain ⟨V, hV⟩ : ∃ V, V = w.alloc (.cells #[.slice aB nB cB, .slice (some ⟨b, o, none⟩) nW cW] 68) := ⟨_, rfl⟩
      rw [← hV] at hb hc HA HB
      have c1 := Arr.cell HA.out 1
      simp at c1
      have HC : Hid _ := hc
      clear hc hb
      go_enter Try.func113, Try.ntmps113
      go_wp2
      rw [← hV]
      clear hV
      go_loop [3] (fun i => ∃ k : Nat, k ≤ nW ∧ i = .int .i64 k ∧ ∀ x ∈ ws.take k, 0 ≤ x ∧ x ≤ 200) (fun i => nW - (intOf i).toNat)
      case atStart => exact ⟨0, Nat.zero_le _, rfl, by simp⟩
      case round =>
        obtain ⟨k, hk, rfl, hall⟩ := hrel
        have HL : Hid _ := hall
        clear hall
        by_cases hlt : k < nW
        · obtain ⟨x, hx⟩ : ∃ x, x = ws.getD k 0 := ⟨_, rfl⟩
          have hck : V.cell? ⟨b, o + k, none⟩ = some (.int .i64 x) := by rw [hx]; exact HC.out k hlt
          have HX : Hid _ := hx
          clear hx
          by_cases g1 : x < 0
          · go_wp2
            go_ret
            refine ⟨?_, HB.out⟩
            rw [HE.out]
            have : wrOk ws = false := by
              unfold wrOk; rw [decide_eq_false_iff_not]
              exact not_all (k := k) (by omega) (by rw [← HX.out]; omega)
            rw [this]; rfl
          by_cases g2 : 200 < x
          · go_wp2
            go_ret
            refine ⟨?_, HB.out⟩
            rw [HE.out]
            have : wrOk ws = false := by
              unfold wrOk; rw [decide_eq_false_iff_not]
              exact not_all (k := k) (by omega) (by rw [← HX.out]; omega)
            rw [this]; rfl
          go_wp2
          go_round
          case rel => exact ⟨k + 1, by omega, by go_num, all_take HL.out (by omega) (by rw [← HX.out]; omega)⟩
          case measure => simp [intOf]; omega
        · have hkn : k = nW := by omega
          subst hkn
          go_wp2
          go_ret
          refine ⟨?_, HB.out⟩
          rw [HE.out]
          have : wrOk ws = true := by
            unfold wrOk; rw [decide_eq_true_eq]
            have := HL.out
            rwa [List.take_of_length_le (by omega)] at this
          rw [this]; rfl
    · have h1' : ((nB : Int) != 3072) = false := by subst h1; rfl
      have h2' : ((nW : Int) != 48) = true := by simp; omega
      have HE : Hid (flOk bs ws = false) := by unfold Hid flOk; simp [hbl, hwl, h1, h2]
      clear h1 h2
      go_enter Try.func113, Try.ntmps113
      go_wp2
      go_ret
      exact ⟨by rw [HE.out]; rfl, HB.out⟩
  · have h1' : ((nB : Int) != 3072) = true := by simp; omega
    have HE : Hid (flOk bs ws = false) := by unfold Hid flOk; simp [hbl, h1]
    go_enter Try.func113, Try.ntmps113
    go_wp2
    go_ret
    exact ⟨by rw [HE.out]; rfl, HB.out⟩

end Go.Proofs.Ytgfjbaigmkdbcaa

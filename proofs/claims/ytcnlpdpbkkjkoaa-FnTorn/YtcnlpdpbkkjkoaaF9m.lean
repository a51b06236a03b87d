/-
  What is proved here: where bytes may be written (the specification's l9may, the program's isAcross); what TornProgram and Program come to, as plain functions.
-/
import Derived.Test.YtcnlpdpbkkjkoaaF9o
import Derived.Test.YtcnlpdpbkkjkoaaF9e
import Derived.Test.YtcnlpdpbkkjkoaaF9r
namespace Go.Proofs.Ytcnlpdpbkkjkoaa
set_option maxRecDepth 100000
set_option maxHeartbeats 1000000
open Go.RowKit

def acr (i n : Int) : Bool := decide (0 < n ∧ i / 64 ≠ (i + n - 1) / 64)
def mayC (i n : Int) : Int := if inF i n then (if acr i n then 2 else 0) else 1
theorem mayC_zero {i n : Int} (h : mayC i n = 0) : inF i n = true ∧ acr i n = false := by
  unfold mayC at h
  cases h1 : inF i n with
  | false => simp [h1] at h
  | true => cases h2 : acr i n with
    | false => exact ⟨rfl, rfl⟩
    | true => simp [h1, h2] at h

theorem specMay (i n : Int) (w : World) (h0 : -9223372036854775808 ≤ i) (h1 : i ≤ 9223372036854775807) (h2 : 0 ≤ n) (h3 : n ≤ 9223372036854775807) :
    Calls Try.prog 82 #[.int .i64 i, .int .i64 n] w fun e w' => e = .returned (.int .i64 (mayC i n)) ∧ w' = w := by
  obtain ⟨r, hr⟩ : ∃ r, r = mayC i n := ⟨_, rfl⟩
  rw [← hr]
  have HR : Hid _ := hr
  clear hr
  go_enter Try.func82, Try.ntmps82
  go_wp2_with fail
  refine (specIn i n _ h0 h1 (by omega) h3).mono ?_
  rintro e w1 ⟨rfl, hw⟩
  rw [hw]
  clear hw
  have hf : inF i n = false ∨ inF i n = true := by cases inF i n <;> simp
  obtain ⟨f, hf'⟩ : ∃ f, f = inF i n := ⟨_, rfl⟩
  rw [← hf'] at hf ⊢
  have HF : Hid _ := hf'
  clear hf'
  rcases hf with rfl | rfl
  · have : r = 1 := by rw [HR.out]; unfold mayC; rw [← HF.out]; rfl
    subst this
    go_wp2
    go_ret
    exact ⟨rfl, rfl⟩
  · obtain ⟨g0, g1, g2⟩ := inF_iff.1 HF.out.symm
    have hr : r = if acr i n then 2 else 0 := by rw [HR.out]; unfold mayC; rw [← HF.out]; rfl
    clear HR
    by_cases hn : 0 < n
    · have d1 : i.tdiv 64 = i / 64 := Int.tdiv_eq_ediv_of_nonneg g0
      have d2 : (i + n - 1).tdiv 64 = (i + n - 1) / 64 := Int.tdiv_eq_ediv_of_nonneg (by omega)
      have w1 : IntKind.i64.wrap (i + n) = i + n := by rw [IntKind.wrap_i64]; omega
      have w2 : IntKind.i64.wrap (i + n - 1) = i + n - 1 := by rw [IntKind.wrap_i64]; omega
      have w3 : IntKind.i64.wrap (i / 64) = i / 64 := by rw [IntKind.wrap_i64]; omega
      have w4 : IntKind.i64.wrap ((i + n - 1) / 64) = (i + n - 1) / 64 := by rw [IntKind.wrap_i64]; omega
      by_cases hq : i / 64 = (i + n - 1) / 64
      · have hq' : (i / 64 != (i + n - 1) / 64) = false := by simpa using hq
        have : r = 0 := by rw [hr]; unfold acr; rw [decide_eq_false (by omega)]; rfl
        subst this
        clear hr hq
        go_wp2
        go_ret
        exact ⟨rfl, rfl⟩
      · have hq' : (i / 64 != (i + n - 1) / 64) = true := by simpa using hq
        have : r = 2 := by rw [hr]; unfold acr; rw [decide_eq_true (by omega)]; rfl
        subst this
        clear hr
        go_wp2
        go_ret
        exact ⟨rfl, rfl⟩
    · have : r = 0 := by rw [hr]; unfold acr; rw [decide_eq_false (by omega)]; rfl
      subst this
      clear hr
      go_wp2
      go_ret
      exact ⟨rfl, rfl⟩

theorem implAcross (i n : Int) (w : World) (h : inF i n = true) :
    Calls Try.prog 68 #[.int .i64 i, .int .i64 n] w fun e w' => e = .returned (.bool (acr i n)) ∧ w' = w := by
  obtain ⟨g0, g1, g2⟩ := inF_iff.1 h
  clear h
  obtain ⟨r, hr⟩ : ∃ r, r = acr i n := ⟨_, rfl⟩
  rw [← hr]
  by_cases hn : 0 < n
  · have d1 : i.tdiv 64 = i / 64 := Int.tdiv_eq_ediv_of_nonneg g0
    have d2 : (i + n - 1).tdiv 64 = (i + n - 1) / 64 := Int.tdiv_eq_ediv_of_nonneg (by omega)
    have w1 : IntKind.i64.wrap (i + n) = i + n := by rw [IntKind.wrap_i64]; omega
    have w2 : IntKind.i64.wrap (i + n - 1) = i + n - 1 := by rw [IntKind.wrap_i64]; omega
    have w3 : IntKind.i64.wrap (i / 64) = i / 64 := by rw [IntKind.wrap_i64]; omega
    have w4 : IntKind.i64.wrap ((i + n - 1) / 64) = (i + n - 1) / 64 := by rw [IntKind.wrap_i64]; omega
    by_cases hq : i / 64 = (i + n - 1) / 64
    · have hq' : (i / 64 != (i + n - 1) / 64) = false := by simpa using hq
      have : r = false := by rw [hr]; unfold acr; rw [decide_eq_false (by omega)]
      subst this
      clear hr hq
      go_enter Try.func68, Try.ntmps68
      go_wp2
      go_ret
      exact ⟨rfl, rfl⟩
    · have hq' : (i / 64 != (i + n - 1) / 64) = true := by simpa using hq
      have : r = true := by rw [hr]; unfold acr; rw [decide_eq_true (by omega)]
      subst this
      clear hr
      go_enter Try.func68, Try.ntmps68
      go_wp2
      go_ret
      exact ⟨rfl, rfl⟩
  · have : r = false := by rw [hr]; unfold acr; rw [decide_eq_false (by omega)]
    subst this
    clear hr
    go_enter Try.func68, Try.ntmps68
    go_wp2
    go_ret
    exact ⟨rfl, rfl⟩

def tOk (bs ws ms : List Int) : Bool := flOk bs ws && decide (ms.length ≤ 256)
def tpC (bs ws : List Int) (i : Int) (xs ms : List Int) : Int := if tOk bs ws ms then mayC i xs.length else 4
def tpB (bs ws : List Int) (i : Int) (xs ms : List Int) : List Int := if tOk bs ws ms then (if mayC i xs.length = 0 then tn (pf xs ms) bs i.toNat xs.length else bs) else []
def tpW (bs ws ms : List Int) : List Int := if tOk bs ws ms then ws else []
theorem tOk_len {bs ws ms : List Int} (h : tOk bs ws ms = true) : bs.length = 3072 ∧ ws.length = 48 ∧ wrOk ws = true ∧ ms.length ≤ 256 := by
  unfold tOk at h
  rw [Bool.and_eq_true, decide_eq_true_eq] at h
  obtain ⟨l1, l2, l3⟩ := flOk_iff.1 h.1
  exact ⟨l1, l2, l3, h.2⟩
theorem tpB_len (bs ws : List Int) (i : Int) (xs ms : List Int) : (tpB bs ws i xs ms).length ≤ 3072 := by
  unfold tpB
  split
  · rename_i h
    have := tOk_len h
    split
    · rw [tn_len]; omega
    · omega
  · simp
theorem pf_byte (xs ms : List Int) (i : Nat) (b : Int) : 0 ≤ pf xs ms i b ∧ pf xs ms i b < 256 := by unfold pf tpb; exact bits_byte _ _ _
theorem ef_byte (ms : List Int) (i : Nat) (b : Int) : 0 ≤ ef ms i b ∧ ef ms i b < 256 := by unfold ef erb; exact bits_byte _ _ _
theorem tpB_byte {bs : List Int} (h : ∀ x ∈ bs, 0 ≤ x ∧ x < 256) (ws : List Int) (i : Int) (xs ms : List Int) : ∀ x ∈ tpB bs ws i xs ms, 0 ≤ x ∧ x < 256 := by
  unfold tpB
  split
  · split
    · exact tn_byte h (pf_byte xs ms) _ _
    · exact h
  · simp
theorem tpW_len (bs ws ms : List Int) : (tpW bs ws ms).length ≤ 48 := by
  unfold tpW
  split
  · rename_i h
    have := tOk_len h
    omega
  · simp
theorem tpW_int (bs : List Int) {ws : List Int} (h : ∀ x ∈ ws, -9223372036854775808 ≤ x ∧ x ≤ 9223372036854775807) (ms : List Int) : ∀ x ∈ tpW bs ws ms, -9223372036854775808 ≤ x ∧ x ≤ 9223372036854775807 := by
  unfold tpW
  split
  · exact h
  · simp
def teC (bs ws : List Int) (i : Int) (ms : List Int) : Int := if tOk bs ws ms then (if 0 ≤ i ∧ i < 48 then (if ws.getD i.toNat 0 = 200 then 3 else 0) else 1) else 4
def teB (bs ws : List Int) (i : Int) (ms : List Int) : List Int := if tOk bs ws ms then (if teC bs ws i ms = 0 then tn (ef ms) bs (i.toNat * 64) 64 else bs) else []
def teW (bs ws : List Int) (i : Int) (ms : List Int) : List Int := if tOk bs ws ms then (if teC bs ws i ms = 0 then ws.set i.toNat (ws.getD i.toNat 0 + 1) else ws) else []
theorem teB_len (bs ws : List Int) (i : Int) (ms : List Int) : (teB bs ws i ms).length ≤ 3072 := by
  unfold teB
  split
  · rename_i h
    have := tOk_len h
    split
    · rw [tn_len]; omega
    · omega
  · simp
theorem teB_byte {bs : List Int} (h : ∀ x ∈ bs, 0 ≤ x ∧ x < 256) (ws : List Int) (i : Int) (ms : List Int) : ∀ x ∈ teB bs ws i ms, 0 ≤ x ∧ x < 256 := by
  unfold teB
  split
  · split
    · exact tn_byte h (ef_byte ms) _ _
    · exact h
  · simp
theorem teW_len (bs ws : List Int) (i : Int) (ms : List Int) : (teW bs ws i ms).length ≤ 48 := by
  unfold teW
  split
  · rename_i h
    have := tOk_len h
    split
    · rw [List.length_set]; omega
    · omega
  · simp
theorem teW_int (bs : List Int) {ws : List Int} (h : ∀ x ∈ ws, -9223372036854775808 ≤ x ∧ x ≤ 9223372036854775807) (i : Int) (ms : List Int) : ∀ x ∈ teW bs ws i ms, -9223372036854775808 ≤ x ∧ x ≤ 9223372036854775807 := by
  unfold teW
  split
  · rename_i ht
    split
    · intro x hx
      rcases List.mem_or_eq_of_mem_set hx with hx | hx
      · exact h x hx
      · by_cases hk : i.toNat < ws.length
        · have := wr_get (tOk_len ht).2.2.1 hk
          omega
        · simp [hk] at hx
          omega
    · exact h
  · simp
end Go.Proofs.Ytcnlpdpbkkjkoaa

/-
  What is proved here: what the specification's l8digits answers: a number's decimal digits.
-/
import Derived.Test.YtgfjbaigmkdbcaaDoorApp
import Derived.Test.YtgfjbaigmkdbcaaDoorAp
import Derived.Test.YtgfjbaigmkdbcaaDoorW64
import Derived.Laws.OwnMore
import Derived.Lib.ItoaNum
namespace Go.Proofs.YtgfjbaigmkdbcaaDoor
open Go.RowKit
set_option maxRecDepth 100000
set_option maxHeartbeats 4000000

/-- A number's digits as bytes. -/
def dgs (n : Nat) : List Int := (Lib.decDigits n).map fun b => (b.toNat : Int)
theorem dgs_one {n : Nat} (h : n < 10) : dgs n = [48 + (n : Int)] := by
  unfold dgs
  rw [Lib.decDigits_one h]
  simp
  omega
theorem dgs_more {n : Nat} (h : ¬ n < 10) : dgs n = dgs (n / 10) ++ [48 + ((n % 10 : Nat) : Int)] := by
  unfold dgs
  rw [Lib.decDigits, dif_neg h, List.map_append]
  congr 1
  simp
  omega
theorem dgs_byte (n : Nat) : ∀ x ∈ dgs n, 0 ≤ x ∧ x < 256 := by
  intro x hx
  unfold dgs at hx
  rw [List.mem_map] at hx
  obtain ⟨b, _, rfl⟩ := hx
  have := b.toNat_lt
  omega
theorem dgs_len : ∀ (k n : Nat), n < 10 ^ (k + 1) → (dgs n).length ≤ k + 1
  | 0, n, h => by rw [dgs_one (by simpa using h)]; simp
  | k + 1, n, h => by
    by_cases h1 : n < 10
    · rw [dgs_one h1]; simp
    · rw [dgs_more h1, List.length_append]
      have := dgs_len k (n / 10) (by rw [Nat.pow_succ] at h; omega)
      simp
      omega
theorem dgs_le {n : Nat} (h : n ≤ 1000000) : (dgs n).length ≤ 7 := dgs_len 6 n (by omega)
theorem u8_small {x : Int} (h0 : 0 ≤ x) (h1 : x < 256) : IntKind.u8.wrap x = x := by simp [IntKind.wrap, IntKind.signed, IntKind.bits]; omega
theorem own_one (w : World) (base : Nat) (x : Int) (hb : base ≤ w.heap.size) : (w.alloc (.cells #[.int .u8 x] 5)).ownsRow base 5 1 (.slice (some ⟨w.heap.size, 0, none⟩) 1 1) 1 (U8 [x]) := World.ownsRow_lit w #[.int .u8 x] 1 hb (by unfold maxLen; omega) rfl
theorem specDigits : ∀ (n : Nat) (w : World), n ≤ 1000000 → Calls Tryd.prog 51 #[.int .i64 (n : Int)] w fun e w' => ∃ v, e = .returned v ∧ w'.ownsRow w.heap.size 5 1 v (dgs n).length (U8 (dgs n)) ∧ Below w.heap.size w w' := by
  intro n
  induction n using Nat.strongRecOn with
  | ind n ih =>
    intro w hn
    by_cases h : n < 10
    · have hI : (n : Int) < 10 := by omega
      rw [dgs_one h]
      have w1 : IntKind.i64.wrap (48 + (n : Int)) = 48 + (n : Int) := wr64 (by omega) (by omega)
      have w2 : IntKind.u8.wrap (48 + (n : Int)) = 48 + (n : Int) := u8_small (by omega) (by omega)
      obtain ⟨x, hx⟩ : ∃ x, x = 48 + (n : Int) := ⟨_, rfl⟩
      have HO : Hid _ := own_one w w.heap.size x (Nat.le_refl _)
      have HB : Hid (Below w.heap.size w (w.alloc (.cells #[.int .u8 x] 5))) := (Below.refl _ _).alloc (Nat.le_refl _) _
      have e1 : 48 + (n : Int) = x := hx.symm
      rw [e1] at w1 w2 ⊢
      clear hx ih
      go_enter Tryd.func51, Tryd.ntmps51
      go_wp2
      go_ret
      exact ⟨_, rfl, HO.out, HB.out⟩
    · have hI : ¬ ((n : Int) < 10) := by omega
      rw [dgs_more h]
      obtain ⟨q, hq⟩ : ∃ q, q = n / 10 := ⟨_, rfl⟩
      obtain ⟨r, hr⟩ : ∃ r : Int, r = ((n % 10 : Nat) : Int) := ⟨_, rfl⟩
      have q1 : (n : Int).tdiv 10 = (q : Int) := by rw [Int.tdiv_eq_ediv_of_nonneg (by omega)]; omega
      have q2 : (n : Int) / 10 = (q : Int) := by omega
      have r1 : (n : Int).tmod 10 = r := by rw [Int.tmod_eq_emod_of_nonneg (by omega)]; omega
      have r2 : (n : Int) % 10 = r := by omega
      have hr0 : 0 ≤ r ∧ r < 10 := by omega
      have w1 : IntKind.i64.wrap (48 + r) = 48 + r := wr64 (by omega) (by omega)
      have w2 : IntKind.u8.wrap (48 + r) = 48 + r := u8_small (by omega) (by omega)
      have HC := ih q (by omega) w (by omega)
      have hl := dgs_le (n := q) (by omega)
      rw [← hq, ← hr]
      obtain ⟨x, hx⟩ : ∃ x, x = 48 + r := ⟨_, rfl⟩
      have e1 : 48 + r = x := hx.symm
      have hx0 : 0 ≤ x ∧ x < 256 := by omega
      obtain ⟨D, hD⟩ : ∃ D, D = dgs q := ⟨_, rfl⟩
      rw [← hD] at HC hl ⊢
      rw [e1] at w1 w2 ⊢
      have HC' : Hid _ := HC
      clear hx hq hr ih HC hD
      go_enter Tryd.func51, Tryd.ntmps51
      go_wp2_with fail
      refine Calls.mono HC'.out ?_
      rintro e w1 ⟨v, rfl, o, hb⟩
      have HO : Hid _ := o.alloc (.cells #[.int .u8 x] 5)
      have H1 : Hid _ := Bs.one w1 x hx0.1 hx0.2
      have HB : Hid _ := hb
      have zb := hb.size
      clear o hb HC'
      go_wp2_with (at_builtin; refine wpl_append_bs rfl _ _ rfl w.heap.size v D.length D rfl _ 1 1 [x] rfl HO.out H1.out ?_ ?_ ?_)
      · omega
      · simp; omega
      intro v2 w2 o2 g2 _
      have b2 : Below w.heap.size w w2 := (HB.out.alloc zb _).grown g2 (by simp; omega) (fun k hk => (World.ownsRow.lt HO.out k hk).1)
      have HO2 : Hid (w2.ownsRow w.heap.size 5 1 v2 (D.length + 1) (U8 (D ++ [x]))) := by unfold Hid; simpa using o2
      have HB2 : Hid _ := b2
      clear HO H1 HB o2 b2 g2
      go_wp2
      go_ret
      rw [List.length_append]
      exact ⟨_, rfl, HO2.out, HB2.out⟩
end Go.Proofs.YtgfjbaigmkdbcaaDoor

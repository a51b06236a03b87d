/-
  What is proved here: what both sides' RecPut answer.
-/
import Derived.Test.YtgfjbaigmkdbcaaC0k
import Derived.Test.YtgfjbaigmkdbcaaC0p
import Derived.Test.YtgfjbaigmkdbcaaCt
import Derived.Test.YtgfjbaigmkdbcaaAp
namespace Go.Proofs.Ytgfjbaigmkdbcaa
open Go.RowKit
set_option maxRecDepth 100000
set_option maxHeartbeats 4000000
set_option linter.unusedVariables false

theorem rc_range {k b n f : Int} (h : rcOk k b n f) : 1 ≤ k ∧ k ≤ 6 ∧ 0 ≤ b ∧ b ≤ 1 ∧ 0 ≤ n ∧ n ≤ 1000 ∧ 0 ≤ f ∧ f ≤ 1000 := by omega

theorem implRecPut (k b n f : Int) (w : World) : Calls Try.prog 157 #[rcV k b n f] w fun e w' => ∃ v, e = .returned v ∧ w'.ownsRow w.heap.size 5 1 v (if rcOk k b n f then 8 else 0) (U8 (if rcOk k b n f then rcB k b n f else [])) ∧ Below w.heap.size w w' := by
  obtain ⟨W, hW⟩ : ∃ W, W = w.alloc (.cells #[.int .i64 k, .int .i64 b, .int .i64 n, .int .i64 f] 144) := ⟨_, rfl⟩
  have B : Below w.heap.size w W := by rw [hW]; exact (Below.refl _ _).alloc (Nat.le_refl _) _
  have A : Arr W w.heap.size 144 [.int .i64 k, .int .i64 b, .int .i64 n, .int .i64 f] := by rw [hW]; exact Arr.new _ _ _
  have c0 := A.cell 0
  have c1 := A.cell 1
  have c2 := A.cell 2
  have c3 := A.cell 3
  simp at c0 c1 c2 c3
  by_cases h : rcOk k b n f
  · rw [if_pos h, if_pos h]
    obtain ⟨k1, k2, b1, b2, n1, n2, f1, f2⟩ := rc_range h
    obtain ⟨H, hH0⟩ : ∃ H, H = rcH k b n f := ⟨_, rfl⟩
    have eB : rcB k b n f = H ++ opp H := by rw [hH0]; rfl
    rw [eB]
    clear eB
    have hH : ∀ x ∈ H, 0 ≤ x ∧ x < 256 := by rw [hH0]; exact rcH_byte k b n f
    have hHl : H.length = 4 := by rw [hH0]; exact rcH_len k b n f
    have m1 : n.tmod 256 = n % 256 := Int.tmod_eq_emod_of_nonneg (by omega)
    have m2 : f.tmod 256 = f % 256 := Int.tmod_eq_emod_of_nonneg (by omega)
    have d1 : n.tdiv 256 = n / 256 := Int.tdiv_eq_ediv_of_nonneg (by omega)
    have d2 : f.tdiv 256 = f / 256 := Int.tdiv_eq_ediv_of_nonneg (by omega)
    have eH : H = [2 * k + b, n % 256, f % 256, n / 256 + 16 * (f / 256)] := by
      rw [hH0]
      unfold rcH
      rw [Int.emod_eq_of_lt (a := 2 * k + b) (by omega) (by omega), Int.emod_eq_of_lt (a := n / 256 + 16 * (f / 256)) (by omega) (by omega)]
    have HE : Hid _ := eH
    have Hl : Hid _ := hHl
    have Hb : Hid _ := hH
    clear hHl hH eH hH0
    go_enter Try.func157, Try.ntmps157
    go_upto_region 1 with fail
    rw [← hW]
    clear hW
    go_wp2_with fail
    refine (implRecOk k b n f _).mono ?_
    rintro e w1 ⟨rfl, hb⟩
    rw [decide_eq_true h]
    replace A := A.kept hb
    clear c0 c1 c2 c3
    have c0 := A.cell 0
    have c1 := A.cell 1
    have c2 := A.cell 2
    have c3 := A.cell 3
    simp at c0 c1 c2 c3
    replace B := B.trans (hb.mono B.size)
    clear hb h
    go_upto_region 4 with fail
    have hown0 : (w1.alloc (.cells #[.int .u8 (2 * k + b), .int .u8 (n % 256), .int .u8 (f % 256), .int .u8 (n / 256 + 16 * (f / 256))] 5)).ownsRow w1.heap.size 5 1 (.slice (some ⟨w1.heap.size, 0, none⟩) 4 4) 4 (U8 H) := by
      rw [HE.out]
      exact ⟨by simp, .inr ⟨w1.heap.size, 4, _, rfl, Nat.le_refl _, heap_alloc_new w1 _, by omega, by unfold maxLen; omega, rfl, by simp [U8]⟩⟩
    have hbs := bs_of_own hown0 Hb.out
    have B0 := B.alloc B.size (.cells #[.int .u8 (2 * k + b), .int .u8 (n % 256), .int .u8 (f % 256), .int .u8 (n / 256 + 16 * (f / 256))] 5)
    clear hown0 HE
    generalize w1.alloc (.cells #[.int .u8 (2 * k + b), .int .u8 (n % 256), .int .u8 (f % 256), .int .u8 (n / 256 + 16 * (f / 256))] 5) = W1 at hbs B0 ⊢
    clear c0 c1 c2 c3 A m1 m2 d1 d2 k1 k2 b1 b2 n1 n2 f1 f2
    go_wp2_with fail
    refine (implOpposites _ 4 4 H _ hbs (by omega)).mono ?_
    rintro e w2 ⟨v, rfl, ho, hb⟩
    have hlH : Hid ((opp H).length = 4) := by unfold Hid; rw [opp_len]; exact Hl.out
    obtain ⟨a2, cc2, rfl, _, hbs2⟩ := Bs.own ho (opp_byte H)
    have hbs1 := hbs.below hb
    replace B := B0.trans (hb.mono B0.size)
    clear hbs ho B0 hb
    generalize hp : (some ⟨w1.heap.size, 0, none⟩ : Option Addr) = p at hbs1 ⊢
    clear hp
    obtain ⟨V, hV⟩ : ∃ V, V = w2.alloc (.cells #[.slice p 4 4, .slice a2 4 cc2] 35) := ⟨_, rfl⟩
    have AV : Arr V w2.heap.size 35 [.slice p 4 4, .slice a2 4 cc2] := by rw [hV]; exact Arr.new _ _ _
    have hbV : Below w2.heap.size w2 V := by rw [hV]; exact (Below.refl _ _).alloc (Nat.le_refl _) _
    have hx1 := hbs1.below hbV
    have hx2 := hbs2.below hbV
    replace B := B.trans (hbV.mono B.size)
    have q0 := AV.cell 0
    have q1 := AV.cell 1
    have ql := AV.lt
    simp at q0 q1
    clear AV hbs1 hbs2
    go_wp2_with fail
    rw [← hV]
    clear hV
    refine (concat2 w2.heap.size p a2 4 4 4 cc2 H (opp H) _ ql q0 q1 hx1 hx2 (by omega) (by omega)).mono ?_
    rintro e w3 ⟨v3, rfl, ho3, hb3⟩
    go_wp2
    go_ret
    exact ⟨_, rfl, own_base ho3 B.size, B.trans (hb3.mono B.size)⟩
  · rw [if_neg h, if_neg h]
    go_enter Try.func157, Try.ntmps157
    go_upto_region 1 with fail
    rw [← hW]
    clear hW
    go_wp2_with fail
    refine (implRecOk k b n f _).mono ?_
    rintro e w1 ⟨rfl, hb⟩
    rw [decide_eq_false h]
    go_wp2
    go_ret
    exact ⟨_, rfl, World.ownsRow_nil _ _ _ _, B.trans (hb.mono B.size)⟩
end Go.Proofs.Ytgfjbaigmkdbcaa

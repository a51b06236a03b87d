/-
  What is proved here: what both sides' RecPut answer.
-/
import Derived.Test.YtjceajgefpinpaaC0k
import Derived.Test.YtjceajgefpinpaaC0p
import Derived.Test.YtjceajgefpinpaaCt
import Derived.Test.YtjceajgefpinpaaAp
namespace Go.Proofs.Ytjceajgefpinpaa
open Go.RowKit
set_option maxRecDepth 100000
set_option maxHeartbeats 4000000
set_option linter.unusedVariables false

theorem rc_range {k b n f : Int} (h : rcOk k b n f) : 1 ≤ k ∧ k ≤ 6 ∧ 0 ≤ b ∧ b ≤ 1 ∧ 0 ≤ n ∧ n ≤ 1000 ∧ 0 ≤ f ∧ f ≤ 1000 := by omega

theorem specPut10 (k b n f : Int) (w : World) (h : rcOk k b n f) : Calls Try.prog 63 #[rcV k b n f] w fun e w' => ∃ v, e = .returned v ∧ w'.ownsRow w.heap.size 5 1 v 8 (U8 (rcB k b n f)) ∧ Below w.heap.size w w' := by
  obtain ⟨k1, k2, b1, b2, n1, n2, f1, f2⟩ := rc_range h
  clear h
  obtain ⟨H, hH0⟩ : ∃ H, H = rcH k b n f := ⟨_, rfl⟩
  have eB : rcB k b n f = H ++ opp H := by rw [hH0]; rfl
  rw [eB]
  clear eB
  have hH : ∀ x ∈ H, 0 ≤ x ∧ x < 256 := by rw [hH0]; exact rcH_byte k b n f
  have hHl : H.length = 4 := by rw [hH0]; exact rcH_len k b n f
  have eH : H = [2 * k + b, n % 256, f % 256, n / 256 + 16 * (f / 256)] := by
    rw [hH0]
    unfold rcH
    rw [Int.emod_eq_of_lt (a := 2 * k + b) (by omega) (by omega), Int.emod_eq_of_lt (a := n / 256 + 16 * (f / 256)) (by omega) (by omega)]
  have HE : Hid _ := eH
  have Hl : Hid _ := hHl
  have Hb : Hid _ := hH
  clear hHl hH eH hH0
  obtain ⟨W, hW⟩ : ∃ W, W = w.alloc (.cells #[.int .i64 k, .int .i64 b, .int .i64 n, .int .i64 f] 29) := ⟨_, rfl⟩
  have B : Below w.heap.size w W := by rw [hW]; exact (Below.refl _ _).alloc (Nat.le_refl _) _
  have A : Arr W w.heap.size 29 [.int .i64 k, .int .i64 b, .int .i64 n, .int .i64 f] := by rw [hW]; exact Arr.new _ _ _
  have c0 := A.cell 0
  have c1 := A.cell 1
  have c2 := A.cell 2
  have c3 := A.cell 3
  simp at c0 c1 c2 c3
  clear A
  go_enter Try.func63, Try.ntmps63
  go_upto_region 1 with fail
  rw [← hW]
  clear hW
  go_upto_region 2 with fail
  have hown0 : (W.alloc (.cells #[.int .u8 (2 * k + b), .int .u8 (n % 256), .int .u8 (f % 256), .int .u8 (n / 256 + 16 * (f / 256))] 5)).ownsRow w.heap.size 5 1 (.slice (some ⟨W.heap.size, 0, none⟩) 4 4) (4 + 0) (U8 (H ++ (opp H).take 0)) := by
    rw [HE.out]
    refine ⟨by simp, .inr ⟨W.heap.size, 4, _, rfl, B.size, heap_alloc_new W _, by omega, by unfold maxLen; omega, rfl, by simp [U8]⟩⟩
  have B0 := B.alloc B.size (.cells #[.int .u8 (2 * k + b), .int .u8 (n % 256), .int .u8 (f % 256), .int .u8 (n / 256 + 16 * (f / 256))] 5)
  generalize hx : W.alloc (.cells #[.int .u8 (2 * k + b), .int .u8 (n % 256), .int .u8 (f % 256), .int .u8 (n / 256 + 16 * (f / 256))] 5) = W1 at hown0 B0 ⊢
  clear hx c0 c1 c2 c3 k1 k2 b1 b2 n1 n2 f1 f2 HE
  go_wp2
  go_loopw [3, 4] (fun v i wr => ∃ j : Nat, j ≤ 4 ∧ i = .int .i64 j ∧ wr.ownsRow w.heap.size 5 1 v (4 + j) (U8 (H ++ (opp H).take j)) ∧ Below w.heap.size w wr) (fun _ i _ => 4 - (intOf i).toNat)
  case atStart => exact ⟨0, by omega, rfl, hown0, B0⟩
  case round =>
    obtain ⟨j, hj, rfl, hown, hb⟩ := hrel
    clear hown0 B0
    by_cases hlt : j < 4
    · have hby : ∀ x ∈ H ++ (opp H).take j, 0 ≤ x ∧ x < 256 := fun x hx => by
        rcases List.mem_append.1 hx with hx | hx
        · exact Hb.out x hx
        · exact opp_byte _ x (List.mem_of_mem_take hx)
      obtain ⟨a, c, rfl, hcm, hbs⟩ := Bs.own hown hby
      obtain ⟨_, hl, hc, _, h⟩ := hbs
      rcases h with h | ⟨g, o, rfl, hgs, hcell⟩
      · omega
      obtain ⟨x, hx⟩ : ∃ x, x = H.getD j 0 := ⟨_, rfl⟩
      have hck : wr.cell? ⟨g, o + j, none⟩ = some (.int .u8 x) := by
        have hHl := Hl.out
        rw [hcell j (by omega), hx]
        simp [List.getD, List.getElem?_append_left (show j < H.length by omega)]
      have hy : 0 ≤ bits .xor .u8 255 x ∧ bits .xor .u8 255 x < 256 := bits_byte _ _ _
      obtain ⟨y, ey⟩ : ∃ y, y = bits .xor .u8 255 x := ⟨_, rfl⟩
      have e9 : H ++ (opp H).take j ++ [y] = H ++ (opp H).take (j + 1) := by
        have hHl := Hl.out
        rw [take_snoc (opp H) j (by rw [opp_len]; omega), opp_get H j (by omega), ← hx, ← ey, List.append_assoc]
      have E9 : Hid _ := e9
      have hb1 := hb.alloc hb.size (.cells #[.int .u8 y] 5)
      have hone := Bs.one wr y (by omega) (by omega)
      have hown1 := hown.alloc (.cells #[.int .u8 y] 5)
      rw [ey] at hb1 hone hown1 E9
      clear hcell hx e9 hl hy ey hown
      have HO : Hid _ := hown1
      have HB : Hid _ := hb1
      have H1 : Hid _ := hone
      clear hown1 hb1 hone
      go_wp2_with (at_builtin; refine wpl_append_bs rfl _ _ rfl w.heap.size _ (4 + j) (H ++ (opp H).take j) rfl (some ⟨wr.heap.size, 0, none⟩) 1 1 [bits .xor .u8 255 x] rfl HO.out H1.out ?_ ?_ ?_)
      · omega
      · have := hb.size; first | omega | (simp; omega)
      intro v2 w2 hown2 hg2 _
      have hown3 : w2.ownsRow w.heap.size 5 1 v2 (4 + (j + 1)) (U8 (H ++ (opp H).take (j + 1))) := by rw [← E9.out, show 4 + (j + 1) = 4 + j + 1 by omega]; simpa [U8] using hown2
      clear hown2
      have hb2 : Below w.heap.size w w2 := HB.out.grown hg2 (by simp; have := hb.size; omega) (fun k hk => (World.ownsRow.lt HO.out k hk).1)
      clear hg2 HO HB H1
      go_wp2
      go_roundw
      case rel => exact ⟨j + 1, by omega, by go_num, hown3, hb2⟩
      case measure => simp [intOf]; omega
    · have hkn : j = 4 := by omega
      subst hkn
      go_wp2
      go_ret
      refine ⟨_, rfl, ?_, hb⟩
      rw [List.take_of_length_le (show (opp H).length ≤ 4 by rw [opp_len, Hl.out]; omega)] at hown
      exact hown
theorem specRecPut (k b n f : Int) (w : World) : Calls Try.prog 24 #[rcV k b n f] w fun e w' => ∃ v, e = .returned v ∧ w'.ownsRow w.heap.size 5 1 v (if rcOk k b n f then 8 else 0) (U8 (if rcOk k b n f then rcB k b n f else [])) ∧ Below w.heap.size w w' := by
  obtain ⟨W, hW⟩ : ∃ W, W = w.alloc (.cells #[.int .i64 k, .int .i64 b, .int .i64 n, .int .i64 f] 29) := ⟨_, rfl⟩
  have B : Below w.heap.size w W := by rw [hW]; exact (Below.refl _ _).alloc (Nat.le_refl _) _
  have A : Arr W w.heap.size 29 [.int .i64 k, .int .i64 b, .int .i64 n, .int .i64 f] := by rw [hW]; exact Arr.new _ _ _
  have c0 := A.cell 0
  have c1 := A.cell 1
  have c2 := A.cell 2
  have c3 := A.cell 3
  simp at c0 c1 c2 c3
  by_cases h : rcOk k b n f
  · rw [if_pos h, if_pos h]
    go_enter Try.func24, Try.ntmps24
    go_upto_region 1 with fail
    rw [← hW]
    clear hW
    go_wp2_with fail
    refine (specRecOk k b n f _).mono ?_
    rintro e w1 ⟨rfl, hb⟩
    rw [decide_eq_true h]
    replace A := A.kept hb
    clear c0 c1 c2 c3
    have c0 := A.cell 0
    have c1 := A.cell 1
    have c2 := A.cell 2
    have c3 := A.cell 3
    simp at c0 c1 c2 c3
    replace B := B.trans (hb.mono B.size)
    clear hb
    go_wp2_with fail
    refine (specPut10 k b n f _ h).mono ?_
    rintro e w2 ⟨v, rfl, ho, hb⟩
    go_wp2
    go_ret
    exact ⟨_, rfl, own_base ho B.size, B.trans (hb.mono B.size)⟩
  · rw [if_neg h, if_neg h]
    go_enter Try.func24, Try.ntmps24
    go_upto_region 1 with fail
    rw [← hW]
    clear hW
    go_wp2_with fail
    refine (specRecOk k b n f _).mono ?_
    rintro e w1 ⟨rfl, hb⟩
    rw [decide_eq_false h]
    go_wp2
    go_ret
    exact ⟨_, rfl, World.ownsRow_nil _ _ _ _, B.trans (hb.mono B.size)⟩
theorem implRecPut (k b n f : Int) (w : World) : Calls Try.prog 25 #[rcV k b n f] w fun e w' => ∃ v, e = .returned v ∧ w'.ownsRow w.heap.size 5 1 v (if rcOk k b n f then 8 else 0) (U8 (if rcOk k b n f then rcB k b n f else [])) ∧ Below w.heap.size w w' := by
  obtain ⟨W, hW⟩ : ∃ W, W = w.alloc (.cells #[.int .i64 k, .int .i64 b, .int .i64 n, .int .i64 f] 29) := ⟨_, rfl⟩
  have B : Below w.heap.size w W := by rw [hW]; exact (Below.refl _ _).alloc (Nat.le_refl _) _
  have A : Arr W w.heap.size 29 [.int .i64 k, .int .i64 b, .int .i64 n, .int .i64 f] := by rw [hW]; exact Arr.new _ _ _
  have c0 := A.cell 0
  have c1 := A.cell 1
  have c2 := A.cell 2
  have c3 := A.cell 3
  simp at c0 c1 c2 c3
  by_cases h : rcOk k b n f
  · rw [if_pos h, if_pos h]
    obtain ⟨k1, k2, b1, b2, n1, n2, f1, f2⟩ := rc_range h
    obtain ⟨H, hH0⟩ : ∃ H, H = rcH k b n f := ⟨_, rfl⟩
    have eB : rcB k b n f = H ++ opp H := by rw [hH0]; rfl
    rw [eB]
    clear eB
    have hH : ∀ x ∈ H, 0 ≤ x ∧ x < 256 := by rw [hH0]; exact rcH_byte k b n f
    have hHl : H.length = 4 := by rw [hH0]; exact rcH_len k b n f
    have m1 : n.tmod 256 = n % 256 := Int.tmod_eq_emod_of_nonneg (by omega)
    have m2 : f.tmod 256 = f % 256 := Int.tmod_eq_emod_of_nonneg (by omega)
    have d1 : n.tdiv 256 = n / 256 := Int.tdiv_eq_ediv_of_nonneg (by omega)
    have d2 : f.tdiv 256 = f / 256 := Int.tdiv_eq_ediv_of_nonneg (by omega)
    have eH : H = [2 * k + b, n % 256, f % 256, n / 256 + 16 * (f / 256)] := by
      rw [hH0]
      unfold rcH
      rw [Int.emod_eq_of_lt (a := 2 * k + b) (by omega) (by omega), Int.emod_eq_of_lt (a := n / 256 + 16 * (f / 256)) (by omega) (by omega)]
    have HE : Hid _ := eH
    have Hl : Hid _ := hHl
    have Hb : Hid _ := hH
    clear hHl hH eH hH0
    go_enter Try.func25, Try.ntmps25
    go_upto_region 1 with fail
    rw [← hW]
    clear hW
    go_wp2_with fail
    refine (implRecOk k b n f _).mono ?_
    rintro e w1 ⟨rfl, hb⟩
    rw [decide_eq_true h]
    replace A := A.kept hb
    clear c0 c1 c2 c3
    have c0 := A.cell 0
    have c1 := A.cell 1
    have c2 := A.cell 2
    have c3 := A.cell 3
    simp at c0 c1 c2 c3
    replace B := B.trans (hb.mono B.size)
    clear hb h
    go_upto_region 4 with fail
    have hown0 : (w1.alloc (.cells #[.int .u8 (2 * k + b), .int .u8 (n % 256), .int .u8 (f % 256), .int .u8 (n / 256 + 16 * (f / 256))] 5)).ownsRow w1.heap.size 5 1 (.slice (some ⟨w1.heap.size, 0, none⟩) 4 4) 4 (U8 H) := by
      rw [HE.out]
      exact ⟨by simp, .inr ⟨w1.heap.size, 4, _, rfl, Nat.le_refl _, heap_alloc_new w1 _, by omega, by unfold maxLen; omega, rfl, by simp [U8]⟩⟩
    have hbs := bs_of_own hown0 Hb.out
    have B0 := B.alloc B.size (.cells #[.int .u8 (2 * k + b), .int .u8 (n % 256), .int .u8 (f % 256), .int .u8 (n / 256 + 16 * (f / 256))] 5)
    clear hown0 HE
    generalize w1.alloc (.cells #[.int .u8 (2 * k + b), .int .u8 (n % 256), .int .u8 (f % 256), .int .u8 (n / 256 + 16 * (f / 256))] 5) = W1 at hbs B0 ⊢
    clear c0 c1 c2 c3 A m1 m2 d1 d2 k1 k2 b1 b2 n1 n2 f1 f2
    go_wp2_with fail
    refine (implOpposites _ 4 4 H _ hbs (by omega)).mono ?_
    rintro e w2 ⟨v, rfl, ho, hb⟩
    have hlH : Hid ((opp H).length = 4) := by unfold Hid; rw [opp_len]; exact Hl.out
    obtain ⟨a2, cc2, rfl, _, hbs2⟩ := Bs.own ho (opp_byte H)
    have hbs1 := hbs.below hb
    replace B := B0.trans (hb.mono B0.size)
    clear hbs ho B0 hb
    generalize hp : (some ⟨w1.heap.size, 0, none⟩ : Option Addr) = p at hbs1 ⊢
    clear hp
    obtain ⟨V, hV⟩ : ∃ V, V = w2.alloc (.cells #[.slice p 4 4, .slice a2 4 cc2] 22) := ⟨_, rfl⟩
    have AV : Arr V w2.heap.size 22 [.slice p 4 4, .slice a2 4 cc2] := by rw [hV]; exact Arr.new _ _ _
    have hbV : Below w2.heap.size w2 V := by rw [hV]; exact (Below.refl _ _).alloc (Nat.le_refl _) _
    have hx1 := hbs1.below hbV
    have hx2 := hbs2.below hbV
    replace B := B.trans (hbV.mono B.size)
    have q0 := AV.cell 0
    have q1 := AV.cell 1
    have ql := AV.lt
    simp at q0 q1
    clear AV hbs1 hbs2
    go_wp2_with fail
    rw [← hV]
    clear hV
    refine (concat2 w2.heap.size p a2 4 4 4 cc2 H (opp H) _ ql q0 q1 hx1 hx2 (by omega) (by omega)).mono ?_
    rintro e w3 ⟨v3, rfl, ho3, hb3⟩
    go_wp2
    go_ret
    exact ⟨_, rfl, own_base ho3 B.size, B.trans (hb3.mono B.size)⟩
  · rw [if_neg h, if_neg h]
    go_enter Try.func25, Try.ntmps25
    go_upto_region 1 with fail
    rw [← hW]
    clear hW
    go_wp2_with fail
    refine (implRecOk k b n f _).mono ?_
    rintro e w1 ⟨rfl, hb⟩
    rw [decide_eq_false h]
    go_wp2
    go_ret
    exact ⟨_, rfl, World.ownsRow_nil _ _ _ _, B.trans (hb.mono B.size)⟩
end Go.Proofs.Ytjceajgefpinpaa

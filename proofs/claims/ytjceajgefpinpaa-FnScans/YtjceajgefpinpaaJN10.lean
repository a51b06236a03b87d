/-
  What is proved here: what both sides' RecPut answer; what a draw of a half of a log (the specification's l10half) answers.
-/
import Derived.Test.YtjceajgefpinpaaJN7
import Derived.Test.YtjceajgefpinpaaJN9
import Derived.Test.YtjceajgefpinpaaJN1
import Derived.Test.YtjceajgefpinpaaJN6
namespace Go.Proofs.Ytjceajgefpinpaa
open Go.RowKit
set_option maxRecDepth 100000
set_option maxHeartbeats 4000000
set_option linter.unusedVariables false

theorem rc_range {k b n f : Int} (h : rcOk k b n f) : 1 ≤ k ∧ k ≤ 6 ∧ 0 ≤ b ∧ b ≤ 1 ∧ 0 ≤ n ∧ n ≤ 1000 ∧ 0 ≤ f ∧ f ≤ 1000 := by omega

theorem specPut10 (k b n f : Int) (w : World) (h : rcOk k b n f) : Calls Try.prog 63 #[rcV k b n f] w fun e w' => ∃ v, e = .returned v ∧ w'.ownsRow w.heap.size 5 1 v 8 (U8 (rcB k b n f)) ∧ Below w.heap.size w w' := by
  obtain ⟨k1, k2, b1, b2, n1, n2, f1, f2⟩ := rc_range h
  clear h
  obtain ⟨H, hH0⟩ : ∃ H, H = rcH k b n f := ⟨_, rfl⟩
  have eB : rcB k b n f = H ++ opp H := by rw [hH0]; rfl
  rw [eB]
  clear eB
  have hH : ∀ x ∈ H, 0 ≤ x ∧ x < 256 := by rw [hH0]; exact rcH_byte k b n f
  have hHl : H.length = 4 := by rw [hH0]; exact rcH_len k b n f
  have eH : H = [2 * k + b, n % 256, f % 256, n / 256 + 16 * (f / 256)] := by
    rw [hH0]
    unfold rcH
    rw [Int.emod_eq_of_lt (a := 2 * k + b) (by omega) (by omega), Int.emod_eq_of_lt (a := n / 256 + 16 * (f / 256)) (by omega) (by omega)]
  have HE : Hid _ := eH
  have Hl : Hid _ := hHl
  have Hb : Hid _ := hH
  clear hHl hH eH hH0
  obtain ⟨W, hW⟩ : ∃ W, W = w.alloc (.cells #[.int .i64 k, .int .i64 b, .int .i64 n, .int .i64 f] 29) := ⟨_, rfl⟩
  have B : Below w.heap.size w W := by rw [hW]; exact (Below.refl _ _).alloc (Nat.le_refl _) _
  have A : Arr W w.heap.size 29 [.int .i64 k, .int .i64 b, .int .i64 n, .int .i64 f] := by rw [hW]; exact Arr.new _ _ _
  have c0 := A.cell 0
  have c1 := A.cell 1
  have c2 := A.cell 2
  have c3 := A.cell 3
  simp at c0 c1 c2 c3
  clear A
  go_enter Try.func63, Try.ntmps63
  go_upto_region 1 with fail
  rw [← hW]
  clear hW
  go_upto_region 2 with fail
  have hown0 : (W.alloc (.cells #[.int .u8 (2 * k + b), .int .u8 (n % 256), .int .u8 (f % 256), .int .u8 (n / 256 + 16 * (f / 256))] 5)).ownsRow w.heap.size 5 1 (.slice (some ⟨W.heap.size, 0, none⟩) 4 4) (4 + 0) (U8 (H ++ (opp H).take 0)) := by
    rw [HE.out]
    refine ⟨by simp, .inr ⟨W.heap.size, 4, _, rfl, B.size, heap_alloc_new W _, by omega, by unfold maxLen; omega, rfl, by simp [U8]⟩⟩
  have B0 := B.alloc B.size (.cells #[.int .u8 (2 * k + b), .int .u8 (n % 256), .int .u8 (f % 256), .int .u8 (n / 256 + 16 * (f / 256))] 5)
  generalize hx : W.alloc (.cells #[.int .u8 (2 * k + b), .int .u8 (n % 256), .int .u8 (f % 256), .int .u8 (n / 256 + 16 * (f / 256))] 5) = W1 at hown0 B0 ⊢
  clear hx c0 c1 c2 c3 k1 k2 b1 b2 n1 n2 f1 f2 HE
  go_wp2
  go_loopw [3, 4] (fun v i wr => ∃ j : Nat, j ≤ 4 ∧ i = .int .i64 j ∧ wr.ownsRow w.heap.size 5 1 v (4 + j) (U8 (H ++ (opp H).take j)) ∧ Below w.heap.size w wr) (fun _ i _ => 4 - (intOf i).toNat)
  case atStart => exact ⟨0, by omega, rfl, hown0, B0⟩
  case round =>
    obtain ⟨j, hj, rfl, hown, hb⟩ := hrel
    clear hown0 B0
    by_cases hlt : j < 4
    · have hby : ∀ x ∈ H ++ (opp H).take j, 0 ≤ x ∧ x < 256 := fun x hx => by
        rcases List.mem_append.1 hx with hx | hx
        · exact Hb.out x hx
        · exact opp_byte _ x (List.mem_of_mem_take hx)
      obtain ⟨a, c, rfl, hcm, hbs⟩ := Bs.own hown hby
      obtain ⟨_, hl, hc, _, h⟩ := hbs
      rcases h with h | ⟨g, o, rfl, hgs, hcell⟩
      · omega
      obtain ⟨x, hx⟩ : ∃ x, x = H.getD j 0 := ⟨_, rfl⟩
      have hck : wr.cell? ⟨g, o + j, none⟩ = some (.int .u8 x) := by
        have hHl := Hl.out
        rw [hcell j (by omega), hx]
        simp [List.getD, List.getElem?_append_left (show j < H.length by omega)]
      have hy : 0 ≤ bits .xor .u8 255 x ∧ bits .xor .u8 255 x < 256 := bits_byte _ _ _
      obtain ⟨y, ey⟩ : ∃ y, y = bits .xor .u8 255 x := ⟨_, rfl⟩
      have e9 : H ++ (opp H).take j ++ [y] = H ++ (opp H).take (j + 1) := by
        have hHl := Hl.out
        rw [take_snoc (opp H) j (by rw [opp_len]; omega), opp_get H j (by omega), ← hx, ← ey, List.append_assoc]
      have E9 : Hid _ := e9
      have hb1 := hb.alloc hb.size (.cells #[.int .u8 y] 5)
      have hone := Bs.one wr y (by omega) (by omega)
      have hown1 := hown.alloc (.cells #[.int .u8 y] 5)
      rw [ey] at hb1 hone hown1 E9
      clear hcell hx e9 hl hy ey hown
      have HO : Hid _ := hown1
      have HB : Hid _ := hb1
      have H1 : Hid _ := hone
      clear hown1 hb1 hone
      go_wp2_with (at_builtin; refine wpl_append_bs rfl _ _ rfl w.heap.size _ (4 + j) (H ++ (opp H).take j) rfl (some ⟨wr.heap.size, 0, none⟩) 1 1 [bits .xor .u8 255 x] rfl HO.out H1.out ?_ ?_ ?_)
      · omega
      · have := hb.size; first | omega | (simp; omega)
      intro v2 w2 hown2 hg2 _
      have hown3 : w2.ownsRow w.heap.size 5 1 v2 (4 + (j + 1)) (U8 (H ++ (opp H).take (j + 1))) := by rw [← E9.out, show 4 + (j + 1) = 4 + j + 1 by omega]; simpa [U8] using hown2
      clear hown2
      have hb2 : Below w.heap.size w w2 := HB.out.grown hg2 (by simp; have := hb.size; omega) (fun k hk => (World.ownsRow.lt HO.out k hk).1)
      clear hg2 HO HB H1
      go_wp2
      go_roundw
      case rel => exact ⟨j + 1, by omega, by go_num, hown3, hb2⟩
      case measure => simp [intOf]; omega
    · have hkn : j = 4 := by omega
      subst hkn
      go_wp2
      go_ret
      refine ⟨_, rfl, ?_, hb⟩
      rw [List.take_of_length_le (show (opp H).length ≤ 4 by rw [opp_len, Hl.out]; omega)] at hown
      exact hown
theorem specRecPut (k b n f : Int) (w : World) : Calls Try.prog 24 #[rcV k b n f] w fun e w' => ∃ v, e = .returned v ∧ w'.ownsRow w.heap.size 5 1 v (if rcOk k b n f then 8 else 0) (U8 (if rcOk k b n f then rcB k b n f else [])) ∧ Below w.heap.size w w' := by
  obtain ⟨W, hW⟩ : ∃ W, W = w.alloc (.cells #[.int .i64 k, .int .i64 b, .int .i64 n, .int .i64 f] 29) := ⟨_, rfl⟩
  have B : Below w.heap.size w W := by rw [hW]; exact (Below.refl _ _).alloc (Nat.le_refl _) _
  have A : Arr W w.heap.size 29 [.int .i64 k, .int .i64 b, .int .i64 n, .int .i64 f] := by rw [hW]; exact Arr.new _ _ _
  have c0 := A.cell 0
  have c1 := A.cell 1
  have c2 := A.cell 2
  have c3 := A.cell 3
  simp at c0 c1 c2 c3
  by_cases h : rcOk k b n f
  · rw [if_pos h, if_pos h]
    go_enter Try.func24, Try.ntmps24
    go_upto_region 1 with fail
    rw [← hW]
    clear hW
    go_wp2_with fail
    refine (specRecOk k b n f _).mono ?_
    rintro e w1 ⟨rfl, hb⟩
    rw [decide_eq_true h]
    replace A := A.kept hb
    clear c0 c1 c2 c3
    have c0 := A.cell 0
    have c1 := A.cell 1
    have c2 := A.cell 2
    have c3 := A.cell 3
    simp at c0 c1 c2 c3
    replace B := B.trans (hb.mono B.size)
    clear hb
    go_wp2_with fail
    refine (specPut10 k b n f _ h).mono ?_
    rintro e w2 ⟨v, rfl, ho, hb⟩
    go_wp2
    go_ret
    exact ⟨_, rfl, own_base ho B.size, B.trans (hb.mono B.size)⟩
  · rw [if_neg h, if_neg h]
    go_enter Try.func24, Try.ntmps24
    go_upto_region 1 with fail
    rw [← hW]
    clear hW
    go_wp2_with fail
    refine (specRecOk k b n f _).mono ?_
    rintro e w1 ⟨rfl, hb⟩
    rw [decide_eq_false h]
    go_wp2
    go_ret
    exact ⟨_, rfl, World.ownsRow_nil _ _ _ _, B.trans (hb.mono B.size)⟩
theorem implRecPut (k b n f : Int) (w : World) : Calls Try.prog 25 #[rcV k b n f] w fun e w' => ∃ v, e = .returned v ∧ w'.ownsRow w.heap.size 5 1 v (if rcOk k b n f then 8 else 0) (U8 (if rcOk k b n f then rcB k b n f else [])) ∧ Below w.heap.size w w' := by
  obtain ⟨W, hW⟩ : ∃ W, W = w.alloc (.cells #[.int .i64 k, .int .i64 b, .int .i64 n, .int .i64 f] 29) := ⟨_, rfl⟩
  have B : Below w.heap.size w W := by rw [hW]; exact (Below.refl _ _).alloc (Nat.le_refl _) _
  have A : Arr W w.heap.size 29 [.int .i64 k, .int .i64 b, .int .i64 n, .int .i64 f] := by rw [hW]; exact Arr.new _ _ _
  have c0 := A.cell 0
  have c1 := A.cell 1
  have c2 := A.cell 2
  have c3 := A.cell 3
  simp at c0 c1 c2 c3
  by_cases h : rcOk k b n f
  · rw [if_pos h, if_pos h]
    obtain ⟨k1, k2, b1, b2, n1, n2, f1, f2⟩ := rc_range h
    obtain ⟨H, hH0⟩ : ∃ H, H = rcH k b n f := ⟨_, rfl⟩
    have eB : rcB k b n f = H ++ opp H := by rw [hH0]; rfl
    rw [eB]
    clear eB
    have hH : ∀ x ∈ H, 0 ≤ x ∧ x < 256 := by rw [hH0]; exact rcH_byte k b n f
    have hHl : H.length = 4 := by rw [hH0]; exact rcH_len k b n f
    have m1 : n.tmod 256 = n % 256 := Int.tmod_eq_emod_of_nonneg (by omega)
    have m2 : f.tmod 256 = f % 256 := Int.tmod_eq_emod_of_nonneg (by omega)
    have d1 : n.tdiv 256 = n / 256 := Int.tdiv_eq_ediv_of_nonneg (by omega)
    have d2 : f.tdiv 256 = f / 256 := Int.tdiv_eq_ediv_of_nonneg (by omega)
    have eH : H = [2 * k + b, n % 256, f % 256, n / 256 + 16 * (f / 256)] := by
      rw [hH0]
      unfold rcH
      rw [Int.emod_eq_of_lt (a := 2 * k + b) (by omega) (by omega), Int.emod_eq_of_lt (a := n / 256 + 16 * (f / 256)) (by omega) (by omega)]
    have HE : Hid _ := eH
    have Hl : Hid _ := hHl
    have Hb : Hid _ := hH
    clear hHl hH eH hH0
    go_enter Try.func25, Try.ntmps25
    go_upto_region 1 with fail
    rw [← hW]
    clear hW
    go_wp2_with fail
    refine (implRecOk k b n f _).mono ?_
    rintro e w1 ⟨rfl, hb⟩
    rw [decide_eq_true h]
    replace A := A.kept hb
    clear c0 c1 c2 c3
    have c0 := A.cell 0
    have c1 := A.cell 1
    have c2 := A.cell 2
    have c3 := A.cell 3
    simp at c0 c1 c2 c3
    replace B := B.trans (hb.mono B.size)
    clear hb h
    go_upto_region 4 with fail
    have hown0 : (w1.alloc (.cells #[.int .u8 (2 * k + b), .int .u8 (n % 256), .int .u8 (f % 256), .int .u8 (n / 256 + 16 * (f / 256))] 5)).ownsRow w1.heap.size 5 1 (.slice (some ⟨w1.heap.size, 0, none⟩) 4 4) 4 (U8 H) := by
      rw [HE.out]
      exact ⟨by simp, .inr ⟨w1.heap.size, 4, _, rfl, Nat.le_refl _, heap_alloc_new w1 _, by omega, by unfold maxLen; omega, rfl, by simp [U8]⟩⟩
    have hbs := bs_of_own hown0 Hb.out
    have B0 := B.alloc B.size (.cells #[.int .u8 (2 * k + b), .int .u8 (n % 256), .int .u8 (f % 256), .int .u8 (n / 256 + 16 * (f / 256))] 5)
    clear hown0 HE
    generalize w1.alloc (.cells #[.int .u8 (2 * k + b), .int .u8 (n % 256), .int .u8 (f % 256), .int .u8 (n / 256 + 16 * (f / 256))] 5) = W1 at hbs B0 ⊢
    clear c0 c1 c2 c3 A m1 m2 d1 d2 k1 k2 b1 b2 n1 n2 f1 f2
    go_wp2_with fail
    refine (implOpposites _ 4 4 H _ hbs (by omega)).mono ?_
    rintro e w2 ⟨v, rfl, ho, hb⟩
    have hlH : Hid ((opp H).length = 4) := by unfold Hid; rw [opp_len]; exact Hl.out
    obtain ⟨a2, cc2, rfl, _, hbs2⟩ := Bs.own ho (opp_byte H)
    have hbs1 := hbs.below hb
    replace B := B0.trans (hb.mono B0.size)
    clear hbs ho B0 hb
    generalize hp : (some ⟨w1.heap.size, 0, none⟩ : Option Addr) = p at hbs1 ⊢
    clear hp
    obtain ⟨V, hV⟩ : ∃ V, V = w2.alloc (.cells #[.slice p 4 4, .slice a2 4 cc2] 22) := ⟨_, rfl⟩
    have AV : Arr V w2.heap.size 22 [.slice p 4 4, .slice a2 4 cc2] := by rw [hV]; exact Arr.new _ _ _
    have hbV : Below w2.heap.size w2 V := by rw [hV]; exact (Below.refl _ _).alloc (Nat.le_refl _) _
    have hx1 := hbs1.below hbV
    have hx2 := hbs2.below hbV
    replace B := B.trans (hbV.mono B.size)
    have q0 := AV.cell 0
    have q1 := AV.cell 1
    have ql := AV.lt
    simp at q0 q1
    clear AV hbs1 hbs2
    go_wp2_with fail
    rw [← hV]
    clear hV
    refine (concat2 w2.heap.size p a2 4 4 4 cc2 H (opp H) _ ql q0 q1 hx1 hx2 (by omega) (by omega)).mono ?_
    rintro e w3 ⟨v3, rfl, ho3, hb3⟩
    go_wp2
    go_ret
    exact ⟨_, rfl, own_base ho3 B.size, B.trans (hb3.mono B.size)⟩
  · rw [if_neg h, if_neg h]
    go_enter Try.func25, Try.ntmps25
    go_upto_region 1 with fail
    rw [← hW]
    clear hW
    go_wp2_with fail
    refine (implRecOk k b n f _).mono ?_
    rintro e w1 ⟨rfl, hb⟩
    rw [decide_eq_false h]
    go_wp2
    go_ret
    exact ⟨_, rfl, World.ownsRow_nil _ _ _ _, B.trans (hb.mono B.size)⟩
end Go.Proofs.Ytjceajgefpinpaa
namespace Go.Proofs.Ytjceajgefpinpaa
open Go.RowKit
set_option maxRecDepth 100000
set_option maxHeartbeats 8000000
set_option linter.unusedVariables false

abbrev byteL (ys : List Int) : Prop := ∀ x ∈ ys, 0 ≤ x ∧ x < 256
theorem byte_app {xs ys : List Int} (h : byteL xs) (k : byteL ys) : byteL (xs ++ ys) := fun x hx => (List.mem_append.1 hx).elim (h x) (k x)
theorem byte_set {xs : List Int} (h : byteL xs) (j : Nat) {v : Int} (hv : 0 ≤ v ∧ v < 256) : byteL (xs.set j v) := fun x hx => (List.mem_or_eq_of_mem_set hx).elim (h x) (fun e => by rw [e]; exact hv)
theorem own_p1 {w W W' : World} {p n S : Nat} {v : Value} {xs : List Value} (h : W.ownsRow S 5 1 v n xs) (hp : p < S) (hg : W.grownBy W' (some p)) : W'.ownsRow S 5 1 v n xs :=
  h.kept hg (by
    cases hv : v.ownBlock with
    | none => exact .inl rfl
    | some j => exact .inr (fun e => by have := (World.ownsRow.lt h j hv).1; injection e with e; omega))
theorem Dz0.own1 {w W W' : World} {p : Nat} {a : Option Addr} {n c m S : Nat} {v : Value} {xs : List Value} (h : Dz0 w W p a n c) (hp : p < w.heap.size) (hS : w.heap.size ≤ S) (ho : W.ownsRow S 5 1 v m xs) (hg : W.grownBy W' v.ownBlock) : Dz0 w W' p a n c :=
  ⟨cur_keep h.cu hg (fun e => by have := (World.ownsRow.lt ho p e).1; omega), grown_into h.gr hg (fun k hk => .inl (by have := (World.ownsRow.lt ho k hk).1; omega))⟩
theorem own_apart {W W' : World} {lo S t n m g cap : Nat} {v : Value} {xs ys : List Value} (h : W.ownsRow lo t 4 (.slice (some ⟨g, 0, none⟩) n cap) n xs) (hg : g < S) (ho : W.ownsRow S 5 1 v m ys) (hw : W.grownBy W' v.ownBlock) : W'.ownsRow lo t 4 (.slice (some ⟨g, 0, none⟩) n cap) n xs :=
  h.kept hw (.inr (fun e => by have := (World.ownsRow.lt ho g e.symm).1; omega))
theorem own_byte {W : World} {S n g cap j : Nat} {ys : List Int} {v : Int} (h : W.ownsRow S 5 1 (.slice (some ⟨g, 0, none⟩) n cap) n (U8 ys)) : (W.setCell ⟨g, j, none⟩ (.int .u8 v)).ownsRow S 5 1 (.slice (some ⟨g, 0, none⟩) n cap) n (U8 (ys.set j v)) := by
  have := (h.stored j (.int .u8 v)).1
  rw [show (U8 ys).set j (.int .u8 v) = U8 (ys.set j v) by simp [U8]] at this
  exact this
theorem own_set4 {W : World} {lo S t n g g2 cap j : Nat} {xs : List Value} {u : Value} (h : W.ownsRow lo t 4 (.slice (some ⟨g, 0, none⟩) n cap) n xs) (hne : g ≠ g2) : (W.setCell ⟨g2, j, none⟩ u).ownsRow lo t 4 (.slice (some ⟨g, 0, none⟩) n cap) n xs :=
  h.kept (cur_grown2 W g2 u j) (.inr (fun e => by simp only [Value.ownBlock, Option.some.injEq] at e; omega))
theorem own_open {W : World} {S n : Nat} {v : Value} {ys : List Int} (h : W.ownsRow S 5 1 v n (U8 ys)) (hn : 0 < n) : ∃ g cap, v = .slice (some ⟨g, 0, none⟩) n cap ∧ S ≤ g ∧ n ≤ cap := by
  obtain ⟨_, h⟩ := own_shape h
  rcases h with ⟨_, rfl⟩ | ⟨g, cap, rfl, h1, _, h3, _⟩
  · omega
  · exact ⟨g, cap, rfl, h1, h3⟩
theorem u8_app (xs ys : List Int) : U8 (xs ++ ys) = List.map (Value.int IntKind.u8) xs ++ List.map (Value.int IntKind.u8) ys := by simp [U8]
theorem u8c {x : Int} (h0 : 0 ≤ x) (h1 : x ≤ 255) : IntKind.u8.wrap x = x := by simp [IntKind.wrap, IntKind.signed, IntKind.bits]; omega

theorem curHalf (p : Nat) (a : Option Addr) (n c : Nat) (xs : List Int) (w : World) (hcur : Cur w p a n c) (hcode : Coded w p a n c xs) :
    Calls Try.prog 46 #[.pointer (some ⟨p, 0, none⟩)] w fun e w' => ∃ (g cap : Nat) (ys : List Int), e = .returned (.slice (some ⟨g, 0, none⟩) 256 cap) ∧ w'.ownsRow w.heap.size 5 1 (.slice (some ⟨g, 0, none⟩) 256 cap) 256 (U8 ys) ∧ byteL ys ∧ Cur w' p a n c ∧ w.grownBy w' (some p) := by
  have hp0 := cur_lt hcur
  have D : Dz0 w w p a n c := ⟨hcur, World.grownBy.refl _ _⟩
  go_enter Try.func46, Try.ntmps46
  clear hcur
  go_wp2_with fail
  refine (curList p a n c xs _ D.cu (hcode.grown D.gr)).mono ?_
  rintro e w1 ⟨L, v, rfl, ho, hokL, h2, h10, hc, hg⟩
  replace D := D.draw hc hg
  have HOK : Hid (∀ i, i < L.length → (rg L i).Ok) := fun i hi => hokL _ (by unfold rg; rw [List.getD_eq_getElem?_getD, List.getElem?_eq_getElem hi]; exact List.getElem_mem hi)
  obtain ⟨M, hM⟩ : ∃ M, M = L.length := ⟨_, rfl⟩
  have HM : Hid (M = L.length) := hM
  rw [← hM] at ho h2 h10
  obtain ⟨gl, cl, rfl, Sl⟩ := Sw.of ho (by omega)
  have HL : Hid (w1.ownsRow w.heap.size 29 4 (.slice (some ⟨gl, 0, none⟩) M cl) M (FL L)) := ho
  obtain ⟨S, hS⟩ : ∃ S, S = w1.heap.size := ⟨_, rfl⟩
  have hgl : gl < S := by rw [hS]; exact Sl.lt
  have hwS : w.heap.size ≤ S := by rw [hS]; exact D.gr.size
  have hSw : S ≤ w1.heap.size := by omega
  clear ho hokL hM hc hg Sl hS
  go_wp2
  go_loopw [4, 5] (fun v i wr => ∃ (k : Nat) (ys : List Int), k ≤ M ∧ i = .int .i64 k ∧ Hid (wr.ownsRow S 5 1 v (8 * k) (U8 ys)) ∧ Hid (byteL ys) ∧ Hid (wr.ownsRow w.heap.size 29 4 (.slice (some ⟨gl, 0, none⟩) M cl) M (FL L)) ∧ S ≤ wr.heap.size ∧ Dz0 w wr p a n c) (fun _ i _ => M - (intOf i).toNat)
  case atStart => exact ⟨0, [], by omega, rfl, World.ownsRow_nil _ _ _ _, (fun x hx => by cases hx), HL, hSw, D⟩
  case round =>
    clear HL hSw D
    obtain ⟨k, ys, hk, rfl, HB, HY, HL, hSw, D⟩ := hrel
    by_cases hlt : k < M
    · have hr := rq_at HL.out k hlt
      have hok := HOK.out k (by rw [← HM.out]; exact hlt)
      obtain ⟨r, er⟩ : ∃ r, r = rg L k := ⟨_, rfl⟩
      rw [← er] at hr hok
      clear er
      obtain ⟨rk, rb, rn, rf⟩ := r
      obtain ⟨c0, c1, c2, c3⟩ := hr
      dsimp only at c0 c1 c2 c3
      dsimp only [Rc.Ok] at hok
      have hltI : (k : Int) < (M : Int) := by omega
      obtain ⟨N, hN⟩ : ∃ N, N = 8 * k := ⟨_, rfl⟩
      rw [← hN] at HB
      have HN : Hid _ := hN
      have hN80 : N ≤ 80 := by omega
      clear hN
      go_wp2_with fail
      refine (specPut10 rk rb rn rf _ hok).mono ?_
      rintro e w2 ⟨v2, rfl, O2, hb⟩
      obtain ⟨a2, c2', rfl, _, hB2⟩ := Bs.own O2 (rcB_byte _ _ _ _)
      replace HB : Hid (w2.ownsRow S 5 1 u4 N (U8 ys)) := own_below HB.out hb
      replace HL : Hid (w2.ownsRow w.heap.size 29 4 (.slice (some ⟨gl, 0, none⟩) M cl) M (FL L)) := own_below HL.out hb
      replace D := D.below hb
      replace hSw : S ≤ w2.heap.size := Nat.le_trans hSw hb.size
      have HY2 : Hid (byteL (ys ++ rcB rk rb rn rf)) := byte_app HY.out (rcB_byte _ _ _ _)
      have HB2 : Hid (Bs w2 a2 8 c2' (rcB rk rb rn rf)) := hB2
      clear hb O2 hB2 c0 c1 c2 c3 hok HY
      go_wp2_with (at_builtin; refine wpl_append_bs rfl _ _ rfl S u4 N ys rfl a2 8 c2' (rcB rk rb rn rf) rfl HB.out HB2.out (by omega) hSw ?_)
      intro v3 w3 O3 g3 _
      replace D := D.own1 hp0 hwS HB.out g3
      replace HL : Hid (w3.ownsRow w.heap.size 29 4 (.slice (some ⟨gl, 0, none⟩) M cl) M (FL L)) := own_apart HL.out hgl HB.out g3
      replace hSw : S ≤ w3.heap.size := Nat.le_trans hSw g3.size
      have O4 : w3.ownsRow S 5 1 v3 (N + 8) (U8 (ys ++ rcB rk rb rn rf)) := by rw [u8_app]; exact O3
      obtain ⟨g, cap, rfl, hgS, hcap⟩ := own_open O4 (by omega)
      clear O4
      replace HB : Hid (w3.ownsRow S 5 1 (.slice (some ⟨g, 0, none⟩) (N + 8) cap) (N + 8) (U8 (ys ++ rcB rk rb rn rf))) := by unfold Hid; rw [u8_app]; exact O3
      clear O3 g3 HB2
      obtain ⟨zs, hzs⟩ : ∃ zs, zs = ys ++ rcB rk rb rn rf := ⟨_, rfl⟩
      rw [← hzs] at HB HY2
      obtain ⟨N2, hN2⟩ : ∃ N2, N2 = N + 8 := ⟨_, rfl⟩
      rw [← hN2] at HB ⊢
      rw [← hN2] at hcap
      have h0 : 0 < N2 := by omega
      have e8 : 8 * (k + 1) = N2 := by have := HN.out; omega
      have HE : Hid _ := e8
      have h88 : N2 ≤ 88 := by omega
      clear hzs hN2 e8 hN80 HN
      have hw : IntKind.i64.wrap ((k : Int) + 1) = (k : Int) + 1 := wr64 (by omega) (by omega)
      go_wp2_with fail
      refine (curOnce p a n c xs _ _ D.cu (hcode.grown D.gr) (by omega)).mono ?_
      rintro e w4 ⟨q, rfl, hc, hg⟩
      replace D := D.draw hc hg
      replace HB : Hid (w4.ownsRow S 5 1 (.slice (some ⟨g, 0, none⟩) N2 cap) N2 (U8 zs)) := own_p1 (w := w) HB.out (by omega) hg
      replace HL : Hid (w4.ownsRow w.heap.size 29 4 (.slice (some ⟨gl, 0, none⟩) M cl) M (FL L)) := own_p HL.out hp0 hg
      replace hSw : S ≤ w4.heap.size := Nat.le_trans hSw hg.size
      clear hc hg
      cases q
      · go_wp2
        go_roundw
        case rel => exact ⟨k + 1, zs, by omega, by go_num, by rw [HE.out]; exact HB, HY2, HL, hSw, D⟩
        case measure => simp [intOf]; omega
      · go_wp2_with fail
        refine (curByte p a n c xs _ D.cu (hcode.grown D.gr)).mono ?_
        rintro e w5 ⟨x, rfl, hx0, hx1, hc, hg⟩
        replace D := D.draw hc hg
        replace HB : Hid (w5.ownsRow S 5 1 (.slice (some ⟨g, 0, none⟩) N2 cap) N2 (U8 zs)) := own_p1 (w := w) HB.out (by omega) hg
        replace HL : Hid (w5.ownsRow w.heap.size 29 4 (.slice (some ⟨gl, 0, none⟩) M cl) M (FL L)) := own_p HL.out hp0 hg
        replace hSw : S ≤ w5.heap.size := Nat.le_trans hSw hg.size
        clear hc hg
        obtain ⟨j, hj⟩ : ∃ j, N2 = j + 1 := ⟨N2 - 1, by omega⟩
        subst hj
        have hcv := u8c hx0 hx1
        have hjw : IntKind.i64.wrap (j : Int) = (j : Int) := wr64 (by omega) (by omega)
        have hj1 : (j : Int) < (j : Int) + 1 := by omega
        have hfz := HB.out.frozenAt j
        have hex : ∃ u, w5.cell? ⟨g, j, none⟩ = some (.int .u8 u) := by
          obtain ⟨_, hs⟩ := own_shape HB.out
          rcases hs with ⟨h, _⟩ | ⟨g', cap', h, _, _, _, _, hc, _⟩
          · cases h
          · cases h
            exact ⟨_, hc j (by omega)⟩
        obtain ⟨u, hu⟩ := hex
        have HB3 : Hid ((w5.setCell ⟨g, j, none⟩ (.int .u8 x)).ownsRow S 5 1 (.slice (some ⟨g, 0, none⟩) (j + 1) cap) (j + 1) (U8 (zs.set j x))) := own_byte HB.out
        have HY3 : Hid (byteL (zs.set j x)) := byte_set HY2.out j ⟨hx0, by omega⟩
        have HL3 : Hid ((w5.setCell ⟨g, j, none⟩ (.int .u8 x)).ownsRow w.heap.size 29 4 (.slice (some ⟨gl, 0, none⟩) M cl) M (FL L)) := own_set4 (S := 0) HL.out (by omega)
        have HD3 : Hid (Dz0 w (w5.setCell ⟨g, j, none⟩ (.int .u8 x)) p a n c) := D.set (by omega) hp0 j _
        have HS3 : Hid (S ≤ (w5.setCell ⟨g, j, none⟩ (.int .u8 x)).heap.size) := by unfold Hid; simp only [World.size_setCell]; exact hSw
        clear HB HY2 HL D hSw
        go_wp2
        go_roundw
        case rel => exact ⟨k + 1, zs.set j x, by omega, by go_num, by rw [HE.out]; exact HB3, HY3, HL3, HS3.out, HD3.out⟩
        case measure => simp [intOf]; omega
    · have hkn : k = M := by omega
      subst hkn
      clear HL HOK HM
      obtain ⟨g, cap, rfl, hgS, hcap⟩ := own_open HB.out (by omega)
      obtain ⟨N, hN⟩ : ∃ N, N = 8 * k := ⟨_, rfl⟩
      rw [← hN] at HB hcap ⊢
      have hN1 : 0 < N := by omega
      have hN2 : N ≤ 256 := by omega
      clear hN
      go_wp2
      go_loopw [4] (fun v wr => ∃ (g N cap : Nat) (ys : List Int), v = .slice (some ⟨g, 0, none⟩) N cap ∧ 0 < N ∧ N ≤ 256 ∧ Hid (wr.ownsRow S 5 1 (.slice (some ⟨g, 0, none⟩) N cap) N (U8 ys)) ∧ Hid (byteL ys) ∧ S ≤ wr.heap.size ∧ Dz0 w wr p a n c) (fun v _ => 256 - lenV v)
      case atStart => exact ⟨g, N, cap, ys, rfl, hN1, hN2, HB, HY, hSw, D⟩
      case round =>
        clear HB HY hSw D hgS hcap hN1 hN2
        obtain ⟨g, N, cap, ys, rfl, hN1, hN2, HB, HY, hSw, D⟩ := hrel
        by_cases hlt : (N : Int) < 256
        · go_wp2_with (at_builtin; refine wpl_append_bs rfl _ _ rfl S (.slice (some ⟨g, 0, none⟩) N cap) N ys rfl (some ⟨wr.heap.size, 0, none⟩) 1 1 [255] rfl (World.ownsRow.alloc HB.out _) (Bs.one wr 255 (by omega) (by omega)) (by omega) (Nat.le_trans hSw (by simp)) ?_)
          intro v3 w3 O3 g3 _
          replace D := (D.alloc _).own1 hp0 hwS (World.ownsRow.alloc HB.out _) g3
          replace hSw : S ≤ w3.heap.size := Nat.le_trans (Nat.le_trans hSw (by simp)) g3.size
          have O4 : w3.ownsRow S 5 1 v3 (N + 1) (U8 (ys ++ [255])) := by rw [u8_app]; exact O3
          obtain ⟨g', cap', rfl, _, _⟩ := own_open O4 (by omega)
          clear O4
          have HB3 : Hid (w3.ownsRow S 5 1 (.slice (some ⟨g', 0, none⟩) (N + 1) cap') (N + 1) (U8 (ys ++ [255]))) := by unfold Hid; rw [u8_app]; exact O3
          have HY3 : Hid (byteL (ys ++ [255])) := byte_app HY.out (fun x hx => by simp at hx; omega)
          clear O3 g3 HB HY
          go_wp2
          go_roundw
          case rel => exact ⟨g', N + 1, cap', _, rfl, by omega, by omega, HB3, HY3, hSw, D⟩
          case measure => simp only [lenV]; omega
        · have hNe : N = 256 := by omega
          subst hNe
          go_wp2
          go_ret
          exact ⟨g, cap, rfl, ys, ⟨HB.out.1, HB.out.2.imp id fun ⟨g, cap, cur, h1, h2, h3⟩ => ⟨g, cap, cur, h1, Nat.le_trans hwS h2, h3⟩⟩, HY.out, D.cu, D.gr⟩
end Go.Proofs.Ytjceajgefpinpaa

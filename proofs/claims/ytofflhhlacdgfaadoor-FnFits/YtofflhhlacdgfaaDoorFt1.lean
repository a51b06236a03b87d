/-
  What is proved here: what the program's Fits answers.
-/
import Derived.Test.YtofflhhlacdgfaaDoorFt0
namespace Go.Proofs.YtofflhhlacdgfaaDoor
open Go.RowKit
set_option maxRecDepth 100000
set_option maxHeartbeats 4000000
set_option linter.unusedVariables false

theorem implFits (k v s : Int) (ha : Option Addr) (hn hc : Nat) (hs : List Int) (a : Option Addr) (n c : Nat) (bs : List Int) (w : World) (hH : Bs w ha hn hc hs) (hB : Bs w a n c bs) (ht : Tabs w) (hf : TabF w) :
    Calls Tryd.prog 25 #[partV k v s ha hn hc, .slice a n c] w fun e w' => e = .returned (.bool (fT k v s hs bs)) ∧ Below w.heap.size w w' := by
  obtain ⟨V, hV⟩ : ∃ V, V = w.alloc (.cells #[.int .i64 k, .int .i64 v, .int .i64 s, .slice ha hn hc] 45) := ⟨_, rfl⟩
  have B : Below w.heap.size w V := by rw [hV]; exact (Below.refl _ _).alloc (Nat.le_refl _) _
  have A : Arr V w.heap.size 45 [.int .i64 k, .int .i64 v, .int .i64 s, .slice ha hn hc] := by rw [hV]; exact Arr.new _ _ _
  have lA := A.lt
  have c0 := A.cell 0
  have c1 := A.cell 1
  have c2 := A.cell 2
  have c3 := A.cell 3
  simp at c0 c1 c2 c3
  obtain ⟨R, hR⟩ : ∃ R, R = fT k v s hs bs := ⟨_, rfl⟩
  rw [← hR]
  unfold fT at hR
  rw [hH.2.1, hB.2.1] at hR
  have HR : Hid (R = (decide (partOk k v s hn) && (decide ((n : Int) = s) && decide (sumOf bs = hs)))) := hR
  have HH : Hid (∀ Z, Below w.heap.size w Z → Bs Z ha hn hc hs) := fun Z hZ => hH.below hZ
  have HB : Hid (∀ Z, Below w.heap.size w Z → Bs Z a n c bs) := fun Z hZ => hB.below hZ
  have HS : Hid (n ≤ 192 → ∀ Z, Below w.heap.size w Z → Calls Tryd.prog 26 #[.slice a n c] Z fun e w' => ∃ u, e = .returned u ∧ w'.ownsRow Z.heap.size 5 1 u 32 (U8 (sumOf bs)) ∧ Below Z.heap.size Z w') := fun h Z hZ => by
    have := implSha256 a n c bs Z (hB.below hZ) (ht.below hZ) (hf.below hZ)
    have e : s256 bs = sumOf bs := if_pos (by have := hB.2.1; omega)
    rw [e, sumOf_len] at this
    exact this
  obtain ⟨F, hF⟩ : ∃ F, F = w.heap.size := ⟨_, rfl⟩
  have HL : Hid (Below w.heap.size w V) := B
  have HFs : Hid (F = w.heap.size) := hF
  rw [← hF] at lA c0 c1 c2 c3
  clear hR hH hB A B ht hf
  go_enter Tryd.func25, Tryd.ntmps25
  go_upto_region 1 with fail
  rw [← hV]
  rw [← hF]
  clear hV hF
  by_cases h1 : partOk k v s hn
  case neg =>
    have HD : Hid (decide (partOk k v s hn) = false) := decide_eq_false h1
    have HE : Hid (R = false) := by unfold Hid; rw [HR.out, HD.out]; rfl
    clear HR HS h1
    try simp only [Act.put]
    refine tameG [kc 5 (.agg #[.int .i64 k, .int .i64 v, .int .i64 s, .slice ha hn hc]), kc 6 (.bool false), kc 7 (.bool false), kc 8 (undef), kc 9 (undef), kc 10 (undef), kc 11 (undef), kc 12 (undef), kc 13 (.bool false), kc 14 (.bool false), kc 15 (undef), kc 16 (undef), kc 17 (undef), kc 18 (undef), kc 19 (undef), kc 20 (.bool false), kc 4 (.bool false)] 17 (by kernel_rfl) (by kernel_rfl) (by kernel_rfl) (by repeat' first | exact trivial | apply kc_keeps | apply dSum_keeps | constructor) 0 (by kernel_rfl) (fun vv ll hh yW bW => ?_) (fun vv ll hh yW bW F0 ivh aph => ?_)
    · have x0 := (bW.cell (p := ⟨F, 0, none⟩) lA).trans c0
      have x1 := (bW.cell (p := ⟨F, 1, none⟩) lA).trans c1
      have x2 := (bW.cell (p := ⟨F, 2, none⟩) lA).trans c2
      have x3 := (bW.cell (p := ⟨F, 3, none⟩) lA).trans c3
      refine ⟨og (tp ?_) (by kernel_rfl), og (tc ((implPartOk k v s ha hn hc _).mono (by rintro e w1 ⟨rfl, hb⟩; rw [HD.out]; exact ⟨rfl, hb⟩)) (by kernel_rfl)) (by kernel_rfl), og (tp (by kernel_rfl)) (by kernel_rfl), ou (by kernel_rfl), ou (by kernel_rfl), ou (by kernel_rfl), ou (by kernel_rfl), ou (by kernel_rfl), og (tp (by kernel_rfl)) (by kernel_rfl), og (tp (by kernel_rfl)) (by kernel_rfl), ou (by kernel_rfl), ou (by kernel_rfl), ou (by kernel_rfl), ou (by kernel_rfl), ou (by kernel_rfl), og (tp (by kernel_rfl)) (by kernel_rfl), og (tp (by kernel_rfl)) (by kernel_rfl), trivial⟩
      all_goals
        try simp only [fillK, putT, List.setIfInBounds_toArray, List.set_cons_zero, List.set_cons_succ]
        try unfold execOp
        try go_simp
        try rfl
    clear F0 ivh aph
    obtain ⟨y, hy⟩ : ∃ z, z = yW := ⟨_, rfl⟩
    rw [← hy] at bW ⊢
    clear hy
    have HB2 : Hid (Below w.heap.size w y) := HL.out.trans (bW.mono HL.out.size)
    clear c0 c1 c2 c3 lA bW
    refine wpAny_done (by kernel_rfl) ?_ _
    simp only [fillK, putT, List.setIfInBounds_toArray, List.set_cons_zero, List.set_cons_succ]
    go_wp2
    go_ret
    exact ⟨by rw [HE.out]; rfl, HB2.out⟩
  have HD : Hid (decide (partOk k v s hn) = true) := decide_eq_true h1
  have hs192 : s ≤ 192 := h1.2.2.1.2
  have h32 : hn = 32 := h1.2.2.2
  have HN : Hid (hn = 32) := h32
  clear h1 h32
  by_cases h2 : (n : Int) = s
  case neg =>
    have HE : Hid (R = false) := by unfold Hid; rw [HR.out, HD.out, decide_eq_false h2]; rfl
    have h2' : ((n : Int) == s) = false := by simpa using h2
    clear HR HS h2 hs192
    try simp only [Act.put]
    refine tameG [kc 5 (.agg #[.int .i64 k, .int .i64 v, .int .i64 s, .slice ha hn hc]), kc 6 (.bool true), kc 7 (.bool true), kc 8 (.slice a n c), kc 9 (.int .i64 (n : Int)), kc 10 (.pointer (some ⟨F, 2, none⟩)), kc 11 (.int .i64 s), kc 12 (.bool false), kc 13 (.bool false), kc 14 (.bool false), kc 15 (undef), kc 16 (undef), kc 17 (undef), kc 18 (undef), kc 19 (undef), kc 20 (.bool false), kc 4 (.bool false)] 17 (by kernel_rfl) (by kernel_rfl) (by kernel_rfl) (by repeat' first | exact trivial | apply kc_keeps | apply dSum_keeps | constructor) 0 (by kernel_rfl) (fun vv ll hh yW bW => ?_) (fun vv ll hh yW bW F0 ivh aph => ?_)
    · have x0 := (bW.cell (p := ⟨F, 0, none⟩) lA).trans c0
      have x1 := (bW.cell (p := ⟨F, 1, none⟩) lA).trans c1
      have x2 := (bW.cell (p := ⟨F, 2, none⟩) lA).trans c2
      have x3 := (bW.cell (p := ⟨F, 3, none⟩) lA).trans c3
      refine ⟨og (tp ?_) (by kernel_rfl), og (tc ((implPartOk k v s ha hn hc _).mono (by rintro e w1 ⟨rfl, hb⟩; rw [HD.out]; exact ⟨rfl, hb⟩)) (by kernel_rfl)) (by kernel_rfl), og (tp (by kernel_rfl)) (by kernel_rfl), og (tp (by kernel_rfl)) (by kernel_rfl), og (tp ?_) (by kernel_rfl), og (tp (by kernel_rfl)) (by kernel_rfl), og (tp ?_) (by kernel_rfl), og (tp ?_) (by kernel_rfl), og (tp ?_) (by kernel_rfl), og (tp (by kernel_rfl)) (by kernel_rfl), ou (by kernel_rfl), ou (by kernel_rfl), ou (by kernel_rfl), ou (by kernel_rfl), ou (by kernel_rfl), og (tp (by kernel_rfl)) (by kernel_rfl), og (tp (by kernel_rfl)) (by kernel_rfl), trivial⟩
      all_goals
        try simp only [fillK, putT, List.setIfInBounds_toArray, List.set_cons_zero, List.set_cons_succ]
        try unfold execOp
        try go_simp
        try rfl
    clear F0 ivh aph
    obtain ⟨y, hy⟩ : ∃ z, z = yW := ⟨_, rfl⟩
    rw [← hy] at bW ⊢
    clear hy
    have HB2 : Hid (Below w.heap.size w y) := HL.out.trans (bW.mono HL.out.size)
    clear c0 c1 c2 c3 lA bW
    refine wpAny_done (by kernel_rfl) ?_ _
    simp only [fillK, putT, List.setIfInBounds_toArray, List.set_cons_zero, List.set_cons_succ]
    go_wp2
    go_ret
    exact ⟨by rw [HE.out]; rfl, HB2.out⟩
  subst h2
  have hn192 : n ≤ 192 := by omega
  obtain ⟨b, q, rfl⟩ : ∃ b q, ha = some ⟨b, q, none⟩ := by
    rcases (HH.out _ HL.out).2.2.2.2 with h0 | ⟨b, q, e, _⟩
    · have := HN.out; omega
    · exact ⟨b, q, e⟩
  have HE : Hid (R = R) := rfl
  have HRx : Hid (R = decide (sumOf bs = hs)) := by
    unfold Hid
    rw [HR.out, HD.out]
    simp
  clear HR hs192
  try simp only [Act.put]
  refine tameG [kc 5 (.agg #[.int .i64 k, .int .i64 v, .int .i64 (n : Int), .slice (some ⟨b, q, none⟩) hn hc]), kc 6 (.bool true), kc 7 (.bool true), kc 8 (.slice a n c), kc 9 (.int .i64 (n : Int)), kc 10 (.pointer (some ⟨F, 2, none⟩)), kc 11 (.int .i64 (n : Int)), kc 12 (.bool true), kc 13 (.bool true), kc 14 (.bool true), kc 15 (.slice a n c), kv 16 (DSum F bs), kc 17 (.pointer (some ⟨F, 3, none⟩)), kc 18 (.slice (some ⟨b, q, none⟩) hn hc), kc 19 (.bool R), kc 20 (.bool R), kc 4 (.bool R)] 17 (by kernel_rfl) (by kernel_rfl) (by kernel_rfl) (by repeat' first | exact trivial | apply kc_keeps | apply dSum_keeps | constructor) 0 (by kernel_rfl) (fun vv ll hh yW bW => ?_) (fun vv ll hh yW bW F0 ivh aph => ?_)
  · have x0 := (bW.cell (p := ⟨F, 0, none⟩) lA).trans c0
    have x1 := (bW.cell (p := ⟨F, 1, none⟩) lA).trans c1
    have x2 := (bW.cell (p := ⟨F, 2, none⟩) lA).trans c2
    have x3 := (bW.cell (p := ⟨F, 3, none⟩) lA).trans c3
    have By : Below w.heap.size w yW := HL.out.trans (bW.mono HL.out.size)
    refine ⟨og (tp ?_) (by kernel_rfl), og (tc ((implPartOk k v (n : Int) (some ⟨b, q, none⟩) hn hc _).mono (by rintro e w1 ⟨rfl, hb⟩; rw [HD.out]; exact ⟨rfl, hb⟩)) (by kernel_rfl)) (by kernel_rfl), og (tp (by kernel_rfl)) (by kernel_rfl), og (tp (by kernel_rfl)) (by kernel_rfl), og (tp ?_) (by kernel_rfl), og (tp (by kernel_rfl)) (by kernel_rfl), og (tp ?_) (by kernel_rfl), og (tp ?_) (by kernel_rfl), og (tp ?_) (by kernel_rfl), og (tp (by kernel_rfl)) (by kernel_rfl), og (tp (by kernel_rfl)) (by kernel_rfl), og (tfSum (by have := bW.size; omega) rfl (HS.out hn192 yW By) (by kernel_rfl)) (by kernel_rfl), og (tp (by kernel_rfl)) (by kernel_rfl), og (tp ?_) (by kernel_rfl), og (tr (f := 79) (args := #[vv 11, .slice (some ⟨b, q, none⟩) hn hc]) (fun x => by (obtain ⟨g, cc, e, oo⟩ : DSum F bs 0 0 yW (vv 11) := x ⟨11, .data⟩ (by simp) (by kernel_rfl) _ rfl; rw [e] at oo; rw [e]; refine (equalB g 0 32 cc b q hn hc (sumOf bs) hs yW (bs_of_own oo (sumOf_byte bs)) (HH.out _ By)).mono ?_; rintro e2 w2 ⟨rfl, rfl⟩; exact ⟨_, rfl, undef, by rw [HRx.out], Below.refl _ _, trivial⟩)) (by kernel_rfl)) (by kernel_rfl), og (tp ?_) (by kernel_rfl), og (tp (by kernel_rfl)) (by kernel_rfl), trivial⟩
    all_goals
      try simp only [fillK, putT, List.setIfInBounds_toArray, List.set_cons_zero, List.set_cons_succ]
      try unfold execOp
      try go_simp
      try rfl
  clear F0 ivh aph
  obtain ⟨y, hy⟩ : ∃ z, z = yW := ⟨_, rfl⟩
  rw [← hy] at bW ⊢
  clear hy
  have HB2 : Hid (Below w.heap.size w y) := HL.out.trans (bW.mono HL.out.size)
  clear c0 c1 c2 c3 lA bW
  refine wpAny_done (by kernel_rfl) ?_ _
  simp only [fillK, putT, List.setIfInBounds_toArray, List.set_cons_zero, List.set_cons_succ]
  go_wp2
  go_ret
  exact ⟨rfl, HB2.out⟩
end Go.Proofs.YtofflhhlacdgfaaDoor

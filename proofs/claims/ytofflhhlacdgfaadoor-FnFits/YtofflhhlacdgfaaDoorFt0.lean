/-
  What is proved here: what Fits of both sides answers.
-/
import Derived.Test.YtofflhhlacdgfaaDoorJP19
import Derived.Test.YtofflhhlacdgfaaDoorC0e
import Derived.Test.YtofflhhlacdgfaaDoorC0s
namespace Go.Proofs.YtofflhhlacdgfaaDoor
open Go.RowKit
set_option maxRecDepth 100000
set_option maxHeartbeats 4000000
set_option linter.unusedVariables false

/-- Whether data fit a part. -/
def fT (k v s : Int) (hs bs : List Int) : Bool := decide (partOk k v s hs.length) && (decide ((bs.length : Int) = s) && decide (sumOf bs = hs))
def DSum (lo : Nat) (bs : List Int) (_ _ : Nat) (w : World) (u : Value) : Prop := ∃ g c, u = .slice (some ⟨g, 0, none⟩) 32 c ∧ w.ownsRow lo 5 1 u 32 (U8 (sumOf bs))
theorem dSum_keeps (q lo : Nat) (bs : List Int) : Kd.keeps (kv q (DSum lo bs)) := fun _ _ _ _ _ h _ b => by
  obtain ⟨g, c, e, o⟩ := h
  exact ⟨g, c, e, own_below o b⟩
theorem dSum_of {lo n : Nat} {W : World} {u : Value} {bs : List Int} (hn : n = 32) (h : W.ownsRow lo 5 1 u n (U8 (sumOf bs))) : DSum lo bs 0 0 W u := by
  subst hn
  obtain ⟨_, hs⟩ := own_shape h
  rcases hs with ⟨_, h0⟩ | ⟨g, c, rfl, _⟩
  · omega
  · exact ⟨g, c, rfl, h⟩
theorem tfSum {P : Program} {ev : Operand → Value} {o : Oper} {q lo : Nat} {w : World} {X : Prop} {bs : List Int} {g : FuncId} {args : Array Value} {m : Nat} (hlo : lo ≤ w.heap.size) (hm : m = 32)
    (hc : Calls P g args w fun e w' => ∃ u, e = .returned u ∧ w'.ownsRow w.heap.size 5 1 u m (U8 (sumOf bs)) ∧ Below w.heap.size w w') (h : (execOp ev o).run P w = .ok (.enter g args) w) : Dty X (TOb P ev o (kv q (DSum lo bs)) w) :=
  tr (fun _ => hc.mono (by rintro e' w' ⟨u, rfl, o, hb⟩; exact ⟨_, rfl, _, rfl, hb, dSum_of hm (own_lower o hlo)⟩)) h
/-- A value that hangs on an operation ahead of it. -/
theorem tpx {P : Program} {ev : Operand → Value} {o : Oper} {d : Nat} {c : Value} {w : World} {X : Prop} (h : X → (execOp ev o).run P w = .ok (.value c) w) : Dty X (TOb P ev o (kc d c) w) := ⟨fun x => by
  refine ⟨?_⟩
  unfold TObR
  rw [h x]
  exact ⟨undef, rfl, Below.refl _ _, trivial⟩⟩
theorem ogx {P : Program} {ops : Array Oper} {T : Array Value} {o : Oper} {k : Kd} {w : World} {X : Prop} (h : Dty X (TOb P (Act.eval ⟨T, []⟩) o k w)) (hw : Region.wanted o (yielded ops T) = true) : Dty X (Ob P ops T o k w) := og h hw
theorem specFits (k v s : Int) (ha : Option Addr) (hn hc : Nat) (hs : List Int) (a : Option Addr) (n c : Nat) (bs : List Int) (w : World) (hH : Bs w ha hn hc hs) (hB : Bs w a n c bs) :
    Calls Tryd.prog 44 #[partV k v s ha hn hc, .slice a n c] w fun e w' => e = .returned (.bool (fT k v s hs bs)) ∧ Below w.heap.size w w' := by
  obtain ⟨V, hV⟩ : ∃ V, V = w.alloc (.cells #[.int .i64 k, .int .i64 v, .int .i64 s, .slice ha hn hc] 45) := ⟨_, rfl⟩
  have B : Below w.heap.size w V := by rw [hV]; exact (Below.refl _ _).alloc (Nat.le_refl _) _
  have A : Arr V w.heap.size 45 [.int .i64 k, .int .i64 v, .int .i64 s, .slice ha hn hc] := by rw [hV]; exact Arr.new _ _ _
  have lA := A.lt
  have c0 := A.cell 0
  have c1 := A.cell 1
  have c2 := A.cell 2
  have c3 := A.cell 3
  simp at c0 c1 c2 c3
  obtain ⟨R, hR⟩ : ∃ R, R = fT k v s hs bs := ⟨_, rfl⟩
  rw [← hR]
  unfold fT at hR
  rw [hH.2.1, hB.2.1] at hR
  have HR : Hid (R = (decide (partOk k v s hn) && (decide ((n : Int) = s) && decide (sumOf bs = hs)))) := hR
  have HH : Hid (∀ Z, Below w.heap.size w Z → Bs Z ha hn hc hs) := fun Z hZ => hH.below hZ
  have HB : Hid (∀ Z, Below w.heap.size w Z → Bs Z a n c bs) := fun Z hZ => hB.below hZ
  have HS : Hid (n ≤ 192 → ∀ Z, Below w.heap.size w Z → Calls Tryd.prog 96 #[.slice a n c] Z fun e w' => ∃ u, e = .returned u ∧ w'.ownsRow Z.heap.size 5 1 u 32 (U8 (sumOf bs)) ∧ Below Z.heap.size Z w') := fun h Z hZ => specL2sum a n c bs Z (hB.below hZ) (by omega)
  obtain ⟨F, hF⟩ : ∃ F, F = w.heap.size := ⟨_, rfl⟩
  have HL : Hid (Below w.heap.size w V) := B
  have HFs : Hid (F = w.heap.size) := hF
  rw [← hF] at lA c0 c1 c2 c3
  clear hR hH hB A B
  go_enter Tryd.func44, Tryd.ntmps44
  go_upto_region 1 with fail
  rw [← hV]
  rw [← hF]
  clear hV hF
  by_cases h1 : partOk k v s hn
  case neg =>
    have HD : Hid (decide (partOk k v s hn) = false) := decide_eq_false h1
    have HE : Hid (R = false) := by unfold Hid; rw [HR.out, HD.out]; rfl
    clear HR HS h1
    try simp only [Act.put]
    refine tameG [kc 5 (.agg #[.int .i64 k, .int .i64 v, .int .i64 s, .slice ha hn hc]), kc 6 (.bool false), kc 7 (.bool false), kc 8 (undef), kc 9 (undef), kc 10 (undef), kc 11 (undef), kc 12 (undef), kc 13 (.bool false), kc 14 (.bool false), kc 15 (undef), kc 16 (undef), kc 17 (undef), kc 18 (undef), kc 19 (undef), kc 20 (undef), kc 21 (undef), kc 22 (.bool false), kc 4 (.bool false)] 19 (by kernel_rfl) (by kernel_rfl) (by kernel_rfl) (by repeat' first | exact trivial | apply kc_keeps | apply dSum_keeps | constructor) 0 (by kernel_rfl) (fun vv ll hh yW bW => ?_) (fun vv ll hh yW bW F0 ivh aph => ?_)
    · have x0 := (bW.cell (p := ⟨F, 0, none⟩) lA).trans c0
      have x1 := (bW.cell (p := ⟨F, 1, none⟩) lA).trans c1
      have x2 := (bW.cell (p := ⟨F, 2, none⟩) lA).trans c2
      have x3 := (bW.cell (p := ⟨F, 3, none⟩) lA).trans c3
      refine ⟨og (tp ?_) (by kernel_rfl), og (tc ((spec8part k v s ha hn hc _).mono (by rintro e w1 ⟨rfl, hb⟩; rw [HD.out]; exact ⟨rfl, hb⟩)) (by kernel_rfl)) (by kernel_rfl), og (tp (by kernel_rfl)) (by kernel_rfl), ou (by kernel_rfl), ou (by kernel_rfl), ou (by kernel_rfl), ou (by kernel_rfl), ou (by kernel_rfl), og (tp (by kernel_rfl)) (by kernel_rfl), og (tp (by kernel_rfl)) (by kernel_rfl), ou (by kernel_rfl), ou (by kernel_rfl), ou (by kernel_rfl), ou (by kernel_rfl), ou (by kernel_rfl), ou (by kernel_rfl), ou (by kernel_rfl), og (tp (by kernel_rfl)) (by kernel_rfl), og (tp (by kernel_rfl)) (by kernel_rfl), trivial⟩
      all_goals
        try simp only [fillK, putT, List.setIfInBounds_toArray, List.set_cons_zero, List.set_cons_succ]
        try unfold execOp
        try go_simp
        try rfl
    clear F0 ivh aph
    obtain ⟨y, hy⟩ : ∃ z, z = yW := ⟨_, rfl⟩
    rw [← hy] at bW ⊢
    clear hy
    have HB2 : Hid (Below w.heap.size w y) := HL.out.trans (bW.mono HL.out.size)
    clear c0 c1 c2 c3 lA bW
    refine wpAny_done (by kernel_rfl) ?_ _
    simp only [fillK, putT, List.setIfInBounds_toArray, List.set_cons_zero, List.set_cons_succ]
    go_wp2
    go_ret
    exact ⟨by rw [HE.out]; rfl, HB2.out⟩
  have HD : Hid (decide (partOk k v s hn) = true) := decide_eq_true h1
  have hs192 : s ≤ 192 := h1.2.2.1.2
  have h32 : hn = 32 := h1.2.2.2
  have HN : Hid (hn = 32) := h32
  clear h1 h32
  by_cases h2 : (n : Int) = s
  case neg =>
    have HE : Hid (R = false) := by unfold Hid; rw [HR.out, HD.out, decide_eq_false h2]; rfl
    have h2' : ((n : Int) == s) = false := by simpa using h2
    clear HR HS h2 hs192
    try simp only [Act.put]
    refine tameG [kc 5 (.agg #[.int .i64 k, .int .i64 v, .int .i64 s, .slice ha hn hc]), kc 6 (.bool true), kc 7 (.bool true), kc 8 (.slice a n c), kc 9 (.int .i64 (n : Int)), kc 10 (.pointer (some ⟨F, 2, none⟩)), kc 11 (.int .i64 s), kc 12 (.bool false), kc 13 (.bool false), kc 14 (.bool false), kc 15 (undef), kc 16 (undef), kc 17 (undef), kc 18 (undef), kc 19 (undef), kc 20 (undef), kc 21 (undef), kc 22 (.bool false), kc 4 (.bool false)] 19 (by kernel_rfl) (by kernel_rfl) (by kernel_rfl) (by repeat' first | exact trivial | apply kc_keeps | apply dSum_keeps | constructor) 0 (by kernel_rfl) (fun vv ll hh yW bW => ?_) (fun vv ll hh yW bW F0 ivh aph => ?_)
    · have x0 := (bW.cell (p := ⟨F, 0, none⟩) lA).trans c0
      have x1 := (bW.cell (p := ⟨F, 1, none⟩) lA).trans c1
      have x2 := (bW.cell (p := ⟨F, 2, none⟩) lA).trans c2
      have x3 := (bW.cell (p := ⟨F, 3, none⟩) lA).trans c3
      refine ⟨og (tp ?_) (by kernel_rfl), og (tc ((spec8part k v s ha hn hc _).mono (by rintro e w1 ⟨rfl, hb⟩; rw [HD.out]; exact ⟨rfl, hb⟩)) (by kernel_rfl)) (by kernel_rfl), og (tp (by kernel_rfl)) (by kernel_rfl), og (tp (by kernel_rfl)) (by kernel_rfl), og (tp ?_) (by kernel_rfl), og (tp (by kernel_rfl)) (by kernel_rfl), og (tp ?_) (by kernel_rfl), og (tp ?_) (by kernel_rfl), og (tp ?_) (by kernel_rfl), og (tp (by kernel_rfl)) (by kernel_rfl), ou (by kernel_rfl), ou (by kernel_rfl), ou (by kernel_rfl), ou (by kernel_rfl), ou (by kernel_rfl), ou (by kernel_rfl), ou (by kernel_rfl), og (tp (by kernel_rfl)) (by kernel_rfl), og (tp (by kernel_rfl)) (by kernel_rfl), trivial⟩
      all_goals
        try simp only [fillK, putT, List.setIfInBounds_toArray, List.set_cons_zero, List.set_cons_succ]
        try unfold execOp
        try go_simp
        try rfl
    clear F0 ivh aph
    obtain ⟨y, hy⟩ : ∃ z, z = yW := ⟨_, rfl⟩
    rw [← hy] at bW ⊢
    clear hy
    have HB2 : Hid (Below w.heap.size w y) := HL.out.trans (bW.mono HL.out.size)
    clear c0 c1 c2 c3 lA bW
    refine wpAny_done (by kernel_rfl) ?_ _
    simp only [fillK, putT, List.setIfInBounds_toArray, List.set_cons_zero, List.set_cons_succ]
    go_wp2
    go_ret
    exact ⟨by rw [HE.out]; rfl, HB2.out⟩
  subst h2
  have hn192 : n ≤ 192 := by omega
  obtain ⟨b, q, rfl⟩ : ∃ b q, ha = some ⟨b, q, none⟩ := by
    rcases (HH.out _ HL.out).2.2.2.2 with h0 | ⟨b, q, e, _⟩
    · have := HN.out; omega
    · exact ⟨b, q, e⟩
  have hby : byteP hs := (HH.out _ HL.out).2.2.2.1
  have e1 := str_eq (sumOf_byte bs) hby
  obtain ⟨t1, ht1⟩ : ∃ t, t = strOfNums (sumOf bs) := ⟨_, rfl⟩
  obtain ⟨t2, ht2⟩ : ∃ t, t = strOfNums hs := ⟨_, rfl⟩
  rw [← ht1, ← ht2] at e1
  have HT1 : Hid (t1 = strOfNums (sumOf bs)) := ht1
  have HT2 : Hid (t2 = strOfNums hs) := ht2
  have HE : Hid (R = R) := rfl
  have hR2 : (t1.toList == t2.toList) = R := by
    rw [e1, HR.out, HD.out]
    simp
  clear HR e1 ht1 ht2 hby hs192
  try simp only [Act.put]
  refine tameG [kc 5 (.agg #[.int .i64 k, .int .i64 v, .int .i64 (n : Int), .slice (some ⟨b, q, none⟩) hn hc]), kc 6 (.bool true), kc 7 (.bool true), kc 8 (.slice a n c), kc 9 (.int .i64 (n : Int)), kc 10 (.pointer (some ⟨F, 2, none⟩)), kc 11 (.int .i64 (n : Int)), kc 12 (.bool true), kc 13 (.bool true), kc 14 (.bool true), kc 15 (.slice a n c), kv 16 (DSum F bs), kc 17 (.string t1), kc 18 (.pointer (some ⟨F, 3, none⟩)), kc 19 (.slice (some ⟨b, q, none⟩) hn hc), kc 20 (.string t2), kc 21 (.bool R), kc 22 (.bool R), kc 4 (.bool R)] 19 (by kernel_rfl) (by kernel_rfl) (by kernel_rfl) (by repeat' first | exact trivial | apply kc_keeps | apply dSum_keeps | constructor) 0 (by kernel_rfl) (fun vv ll hh yW bW => ?_) (fun vv ll hh yW bW F0 ivh aph => ?_)
  · have x0 := (bW.cell (p := ⟨F, 0, none⟩) lA).trans c0
    have x1 := (bW.cell (p := ⟨F, 1, none⟩) lA).trans c1
    have x2 := (bW.cell (p := ⟨F, 2, none⟩) lA).trans c2
    have x3 := (bW.cell (p := ⟨F, 3, none⟩) lA).trans c3
    have By : Below w.heap.size w yW := HL.out.trans (bW.mono HL.out.size)
    have hcv2 : (convert 22 9 (.slice (some ⟨b, q, none⟩) hn hc)).run Tryd.prog yW = .ok (.string t2) yW := by rw [HT2.out]; exact bs_conv (HH.out _ By)
    refine ⟨og (tp ?_) (by kernel_rfl), og (tc ((spec8part k v (n : Int) (some ⟨b, q, none⟩) hn hc _).mono (by rintro e w1 ⟨rfl, hb⟩; rw [HD.out]; exact ⟨rfl, hb⟩)) (by kernel_rfl)) (by kernel_rfl), og (tp (by kernel_rfl)) (by kernel_rfl), og (tp (by kernel_rfl)) (by kernel_rfl), og (tp ?_) (by kernel_rfl), og (tp (by kernel_rfl)) (by kernel_rfl), og (tp ?_) (by kernel_rfl), og (tp ?_) (by kernel_rfl), og (tp ?_) (by kernel_rfl), og (tp (by kernel_rfl)) (by kernel_rfl), og (tp (by kernel_rfl)) (by kernel_rfl), og (tfSum (by have := bW.size; omega) rfl (HS.out hn192 yW By) (by kernel_rfl)) (by kernel_rfl), og (tpx (fun x => by (obtain ⟨g, cc, e, oo⟩ : DSum F bs 0 0 yW (vv 11) := x ⟨11, .data⟩ (by simp) (by kernel_rfl) _ rfl; rw [e] at oo; have hcv1 : (convert 22 9 (.slice (some ⟨g, 0, none⟩) 32 cc)).run Tryd.prog yW = .ok (.string t1) yW := (by rw [HT1.out]; exact bs_conv (bs_of_own oo (sumOf_byte bs))); simp only [fillK, putT, List.setIfInBounds_toArray, List.set_cons_zero, List.set_cons_succ]; rw [e]; unfold execOp; go_simp))) (by kernel_rfl), og (tp (by kernel_rfl)) (by kernel_rfl), og (tp ?_) (by kernel_rfl), og (tp ?_) (by kernel_rfl), og (tp ?_) (by kernel_rfl), og (tp ?_) (by kernel_rfl), og (tp (by kernel_rfl)) (by kernel_rfl), trivial⟩
    all_goals
      try simp only [fillK, putT, List.setIfInBounds_toArray, List.set_cons_zero, List.set_cons_succ]
      try unfold execOp
      try go_simp
      try rfl
  clear F0 ivh aph
  obtain ⟨y, hy⟩ : ∃ z, z = yW := ⟨_, rfl⟩
  rw [← hy] at bW ⊢
  clear hy
  have HB2 : Hid (Below w.heap.size w y) := HL.out.trans (bW.mono HL.out.size)
  clear c0 c1 c2 c3 lA bW
  refine wpAny_done (by kernel_rfl) ?_ _
  simp only [fillK, putT, List.setIfInBounds_toArray, List.set_cons_zero, List.set_cons_succ]
  go_wp2
  go_ret
  exact ⟨rfl, HB2.out⟩
end Go.Proofs.YtofflhhlacdgfaaDoor

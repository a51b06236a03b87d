/-
  What is proved here: append onto a row of records that the call owns; the records of a summary as plain data; what the specification's Summary answers; records that may all be, as a list; the summary of a state, behind a head, comes to the same state, as plain data; no program is spoken of; what the laws' logs answers; the contract of the library's bytes.Equal where the first slice may be nil; what the program's RecGet answers; what the specification's l8digits answers: a number's decimal digits.
-/
import Derived.Test.YtjceajgefpinpaaDoorJQ8
import Derived.Test.YtjceajgefpinpaaDoorC0l
import Derived.Test.YtjceajgefpinpaaDoorJQ1
import Derived.Laws.AppendOwnNone
import Derived.Test.YtjceajgefpinpaaDoorC1a
import Derived.Test.YtjceajgefpinpaaDoorC1c
import Derived.Laws.OwnMore
import Derived.Test.YtjceajgefpinpaaDoorJQ7
import Derived.Lib.ItoaNum
namespace Go.Proofs.YtjceajgefpinpaaDoor
open Go.RowKit
set_option maxRecDepth 100000
set_option maxHeartbeats 4000000
set_option linter.unusedVariables false

theorem FL_one : ∀ (xs : List Rc), ∀ u ∈ FL xs, u.oneCell' = true
  | [], u, h => by cases h
  | r :: t, u, h => by
    simp only [FL, List.mem_cons] at h
    rcases h with rfl | rfl | rfl | rfl | h
    · rfl
    · rfl
    · rfl
    · rfl
    · exact FL_one t u h
theorem rs_cells {w : World} {b o n : Nat} {ys : List Rc} (hl : ys.length = n) (h : ∀ i, i < n → Rat w b (o + i * 4) (rg ys i)) (j : Nat) (u : Value) (hj : (FL ys)[j]? = some u) : w.cell? ⟨b, o + j, none⟩ = some u := by
  have hjl : j < ys.length * 4 := by rw [← FL_len]; exact (List.getElem?_eq_some_iff.1 hj).1
  have hi : j / 4 < n := by omega
  obtain ⟨a0, a1, a2, a3⟩ := FL_get ys (j / 4) (by omega)
  obtain ⟨c0, c1, c2, c3⟩ := h (j / 4) hi
  have : j = j / 4 * 4 ∨ j = j / 4 * 4 + 1 ∨ j = j / 4 * 4 + 2 ∨ j = j / 4 * 4 + 3 := by omega
  rcases this with e | e | e | e
  · rw [e] at hj ⊢; rw [a0] at hj; rw [c0]; exact hj
  · rw [e] at hj ⊢; rw [a1] at hj; rw [show o + (j / 4 * 4 + 1) = o + j / 4 * 4 + 1 by omega, c1]; exact hj
  · rw [e] at hj ⊢; rw [a2] at hj; rw [show o + (j / 4 * 4 + 2) = o + j / 4 * 4 + 2 by omega, c2]; exact hj
  · rw [e] at hj ⊢; rw [a3] at hj; rw [show o + (j / 4 * 4 + 3) = o + j / 4 * 4 + 3 by omega, c3]; exact hj
theorem wpl_append_rs {w : World} {ops : Array Oper} {rest : List Oper} {o : Oper} {a : Act} {Q : Exit → Act → World → Prop} (hgd : o.guard = none) (s x : Operand)
    (ho : o.op = .call { callee := .builtin .append, args := #[s, x], argTypes := #[49, 49] })
    (base : Nat) (v : Value) (n : Nat) (xs : List Rc) (hs : a.eval s = v) (ao : Option Addr) (m c : Nat) (ys : List Rc) (hx : a.eval x = .slice ao m c)
    (hown : w.ownsRow base 24 4 v n (FL xs)) (hb : Rs w ao m c ys) (hlen : n + m ≤ 1048576) (hbase : base ≤ w.heap.size)
    (h : ∀ v' w', w'.ownsRow base 24 4 v' (n + m) (FL (xs ++ ys)) → w.grownBy w' v.ownBlock → wpList Tryd.prog ops Q rest (a.put o.dst v') w') :
    wpList Tryd.prog ops Q (o :: rest) a w := by
  obtain ⟨i0, hi, hz0, hz1, hz2⟩ := info_parts (show (Tryd.prog.info? 24).map (fun i => (i.zero, i.size, i.bytes)) = some (some (rcV 0 0 0 0), 4, 32) by kernel_rfl)
  obtain ⟨hcap, hl, hc, hb⟩ := hb
  cases ao with
  | none =>
    have hc0 := hcap rfl
    subst hc0
    have hm : m = 0 := by omega
    subst hm
    have hy : ys = [] := List.eq_nil_of_length_eq_zero hl
    subst hy
    exact wpList_append_own_none hgd s x 49 ho base 24 i0 4 Tryd.underlying49 hi v n (FL xs) hs hown hx
      (h v w (by simpa using hown) (World.grownBy.refl _ _))
  | some ad =>
    refine wpList_append_own w hgd s x 49 ho base 24 i0 (rcV 0 0 0 0) 4 32 Tryd.underlying49 hi hz0 hz1 hz2 rfl (by decide) v n (FL xs) hs hown ad m c (FL ys) hx (by rw [FL_len, hl]) ?_ (FL_one _)
      (by unfold maxLen; omega) (by omega) hbase ?_
    · rcases hb with hb | ⟨b, off, ha, _, hcell⟩
      · intro j u hj
        have hy : ys = [] := List.eq_nil_of_length_eq_zero (by omega)
        subst hy
        simp [FL] at hj
      · obtain rfl := Option.some.inj ha
        intro j u hj
        rw [Addr.add_lit]
        exact rs_cells hl hcell j u hj
    · intro v' w' h1 h2 _
      exact h v' w' (by rw [FL_app]; exact h1) h2
/-- One new record, as a slice. -/
theorem Rs.one (w : World) (r : Rc) : Rs (w.alloc (.cells (rcC r).toArray 24)) (some ⟨w.heap.size, 0, none⟩) 1 1 [r] := by
  have A := Arr.new w (rcC r) 24
  refine ⟨(fun h => by cases h), rfl, Nat.le_refl _, .inr ⟨w.heap.size, 0, rfl, by simp, ?_⟩⟩
  intro j hj
  have : j = 0 := by omega
  subst this
  exact ⟨A.cell 0, A.cell 1, A.cell 2, A.cell 3⟩

abbrev rTry : Rc := ⟨4, 0, 0, 0⟩
/-- The records of a summary. -/
def smR (b n f : Int) (t : Bool) (i o : Int) : List Rc := if t = false then [⟨2, b, n, f⟩] else [⟨2, 1 - b, o, f⟩, ⟨3, b, n, 0⟩] ++ List.replicate i.toNat rTry
def smL (b n f : Int) (t : Bool) (i o : Int) : List Rc := if btOk b n f t i o then smR b n f t i o else []

end Go.Proofs.YtjceajgefpinpaaDoor
namespace Go.Proofs.YtjceajgefpinpaaDoor
open Go.RowKit

theorem all_of : ∀ {l : List Rc}, (∀ r ∈ l, r.Ok) → foAll l := fun {l} h i hi => h _ (by unfold rg; rw [List.getD_eq_getElem?_getD, List.getElem?_eq_getElem hi]; exact List.getElem_mem hi)
end Go.Proofs.YtjceajgefpinpaaDoor
namespace Go.Proofs.YtjceajgefpinpaaDoor
open Go.RowKit
set_option maxRecDepth 100000
set_option maxHeartbeats 2000000
set_option linter.unusedVariables false

theorem foT_ok {l : List Rc} (h : (foT l).2 = true) : (foT l).1.Ok := by
  unfold foT at h ⊢
  split at h
  · next hc =>
    rw [if_pos hc]
    unfold foL at h ⊢
    split at h
    · next hg =>
      rw [if_pos hg]
      exact foS_ok hc.2 hg _ (by have := hg.1; omega)
    · cases h
  · cases h
theorem foT_no {l : List Rc} (h : (foT l).2 = false) : (foT l).1 = bz := by
  unfold foT at h ⊢
  split at h
  · next hc =>
    rw [if_pos hc]
    unfold foL at h ⊢
    split at h
    · cases h
    · next hg => rw [if_neg hg]
  · next hc => rw [if_neg hc]
theorem foT_of {l : List Rc} (h32 : l.length ≤ 32) (ha : foAll l) (hg : foGood l) : foT l = (foS l (l.length - 2), true) := by
  unfold foT
  rw [if_pos ⟨h32, ha⟩]
  unfold foL
  rw [if_pos hg]
abbrev rHead (x : Int) : Rc := ⟨1, 0, x, 0⟩
theorem smL_ok {s : Bt} (hs : s.Ok) : smL s.b s.n s.f s.t s.i s.o = smR s.b s.n s.f s.t s.i s.o := if_pos hs
theorem smR_ok {b n f i o : Int} {t : Bool} (h : btOk b n f t i o) : (∀ r ∈ smR b n f t i o, r.Ok) ∧ (smR b n f t i o).length ≤ 5 ∧ 1 ≤ (smR b n f t i o).length := by
  obtain ⟨h1, h2, h3, h4⟩ := h
  cases t
  · refine ⟨?_, by simp [smR], by simp [smR]⟩
    intro r hr
    simp [smR] at hr
    subst hr
    show rcOk 2 b n f
    exact .inr (.inl ⟨rfl, h1, h2, h3⟩)
  · rw [if_pos rfl] at h4
    refine ⟨?_, ?_, by simp [smR]⟩
    · intro r hr
      simp [smR] at hr
      rcases hr with rfl | rfl | ⟨_, rfl⟩
      · exact .inr (.inl ⟨rfl, by dsimp only; omega, h4.2, h3⟩)
      · exact .inr (.inr (.inl ⟨rfl, h1, h2, rfl⟩))
      · exact .inr (.inr (.inr (.inr ⟨.inl rfl, rfl, rfl, rfl⟩)))
    · simp [smR]
      omega
theorem fold_sum {s : Bt} (hs : s.Ok) (x : Int) (hx : 0 ≤ x ∧ x ≤ 1000) : foT (rHead x :: smL s.b s.n s.f s.t s.i s.o) = (s, true) := by
  rw [smL_ok hs]
  obtain ⟨b, n, f, t, i, o⟩ := s
  have hk : (∀ r ∈ smR b n f t i o, r.Ok) ∧ (smR b n f t i o).length ≤ 5 ∧ 1 ≤ (smR b n f t i o).length := smR_ok hs
  have ha : foAll (rHead x :: smR b n f t i o) := all_of (by
    intro r hr
    rw [List.mem_cons] at hr
    rcases hr with rfl | hr
    · exact .inl ⟨rfl, rfl, hx, rfl⟩
    · exact hk.1 r hr)
  obtain ⟨h1, h2, h3, h4⟩ := hs
  dsimp only at h1 h2 h3 h4
  cases t
  · simp only [Bool.false_eq_true, if_false] at h4
    obtain ⟨rfl, rfl⟩ := h4
    rw [foT_of (by simp [smR]) ha ⟨by simp [smR], rfl, rfl⟩]
    rfl
  · simp only [if_true] at h4
    have hi : i = 0 ∨ i = 1 ∨ i = 2 ∨ i = 3 := by omega
    have hb : ¬ (b = 1 - b) := by omega
    have e1 : stT ⟨1 - b, o, f, false, 0, 0⟩ ⟨3, b, n, 0⟩ = (⟨b, n, f, true, 0, o⟩, true) := by
      unfold stT
      rw [if_pos rfl, if_neg (by simp; exact hb)]
    have e2 : ∀ k : Int, k < 3 → stT ⟨b, n, f, true, k, o⟩ rTry = (⟨b, n, f, true, k + 1, o⟩, true) := by
      intro k hk
      unfold stT
      rw [if_neg (by decide), if_pos rfl, if_neg (by simp; omega)]
    rw [foT_of (by have := hk.2.1; rw [List.length_cons]; omega) ha ⟨by simp [smR], rfl, rfl⟩]
    rcases hi with rfl | rfl | rfl | rfl
    · show ((stT ⟨1 - b, o, f, false, 0, 0⟩ ⟨3, b, n, 0⟩).1, true) = _
      rw [e1]
    · show ((stT (stT ⟨1 - b, o, f, false, 0, 0⟩ ⟨3, b, n, 0⟩).1 rTry).1, true) = _
      rw [e1, e2 0 (by omega)]
      rfl
    · show ((stT (stT (stT ⟨1 - b, o, f, false, 0, 0⟩ ⟨3, b, n, 0⟩).1 rTry).1 rTry).1, true) = _
      rw [e1, e2 0 (by omega), e2 (0 + 1) (by omega)]
      rfl
    · show ((stT (stT (stT (stT ⟨1 - b, o, f, false, 0, 0⟩ ⟨3, b, n, 0⟩).1 rTry).1 rTry).1 rTry).1, true) = _
      rw [e1, e2 0 (by omega), e2 (0 + 1) (by omega), e2 (0 + 1 + 1) (by omega)]
      rfl
end Go.Proofs.YtjceajgefpinpaaDoor
namespace Go.Proofs.YtjceajgefpinpaaDoor
open Go.RowKit
set_option maxRecDepth 100000
set_option maxHeartbeats 4000000
set_option linter.unusedVariables false

theorem implLogs (w : World) : Calls Tryd.prog 9 #[] w fun e w' => e = .returned (.bool true) ∧ Below w.heap.size w w' := by
  obtain ⟨L0, hL0⟩ : ∃ L0 : List Rc, L0 = [⟨1, 0, 1, 0⟩, ⟨2, 0, 3, 2⟩] := ⟨_, rfl⟩
  have hF : foT L0 = (⟨0, 3, 2, false, 0, 0⟩, true) := by
    rw [hL0, foT_of (by simp) (all_of (by
      intro r hr
      simp at hr
      rcases hr with rfl | rfl
      · exact .inl ⟨rfl, rfl, by dsimp only; omega, rfl⟩
      · exact .inr (.inl ⟨rfl, by dsimp only; omega, by dsimp only; omega, by dsimp only; omega⟩))) ⟨by simp, rfl, rfl⟩]
    rfl
  have hl0 : L0.length = 2 := by rw [hL0]; rfl
  obtain ⟨V, hV⟩ : ∃ V, V = w.alloc (.cells #[.int .i64 1, .int .i64 0, .int .i64 1, .int .i64 0, .int .i64 2, .int .i64 0, .int .i64 3, .int .i64 2] 24) := ⟨_, rfl⟩
  have HO : Hid (Rs V (some ⟨w.heap.size, 0, none⟩) 2 2 L0) := by
    have : V.ownsRow w.heap.size 24 4 (.slice (some ⟨w.heap.size, 0, none⟩) 2 2) 2 (FL L0) := by
      rw [hV, hL0]
      exact World.ownsRow_lit w #[.int .i64 1, .int .i64 0, .int .i64 1, .int .i64 0, .int .i64 2, .int .i64 0, .int .i64 3, .int .i64 2] 2 (Nat.le_refl _) (by unfold maxLen; omega) rfl
    exact rs_of_own this
  have BV : Below w.heap.size w V := by rw [hV]; exact (Below.refl _ _).alloc (Nat.le_refl _) _
  have HF : Hid (foT L0 = (⟨0, 3, 2, false, 0, 0⟩, true)) := hF
  clear hF hL0
  go_enter Tryd.func9, Tryd.ntmps9
  go_wp2_with fail
  rw [← hV]
  clear hV
  refine (implFold (some ⟨w.heap.size, 0, none⟩) 2 2 L0 _ HO.out (by omega)).mono ?_
  rintro e w2 ⟨rfl, hb⟩
  rw [HF.out]
  dsimp only [stV, btW]
  have HB : Hid (∀ o : Obj, Below w.heap.size w (w2.alloc o)) := fun o => (BV.trans (hb.mono BV.size)).alloc (BV.trans (hb.mono BV.size)).size _
  clear hb BV HO HF
  go_wp2
  go_ret
  exact ⟨rfl, HB.out _⟩
end Go.Proofs.YtjceajgefpinpaaDoor
namespace Go.Proofs.YtjceajgefpinpaaDoor
open Go.RowKit
set_option maxRecDepth 100000

theorem nil_conv (w : World) : (convert 22 9 (.slice none 0 0)).run Tryd.prog w = .ok (.string (strOfNums [])) w := by
  rfl
set_option maxHeartbeats 1000000 in
theorem equalB' (a : Option Addr) (n c b' o' m d : Nat) (xs ys : List Int) (w : World) (h : Bs w a n c xs) (ha : a = none ∨ ∃ b o, a = some ⟨b, o, none⟩) (k : Bs w (some ⟨b', o', none⟩) m d ys) :
    Calls Tryd.prog 28 #[.slice a n c, .slice (some ⟨b', o', none⟩) m d] w fun e w' => e = .returned (.bool (decide (xs = ys))) ∧ w' = w := by
  rcases ha with rfl | ⟨b, o, rfl⟩
  case inr => exact equalB b o n c b' o' m d xs ys w h k
  case inl =>
    have hc := h.1 rfl
    have hn : n = 0 := by have := h.2.2.1; omega
    subst hc hn
    have hx : xs = [] := List.eq_nil_of_length_eq_zero h.2.1
    subst hx
    have h1 := nil_conv w
    have h2 := bs_conv k
    have e1 := str_eq (xs := []) (by simp) k.2.2.2.1
    obtain ⟨s, hs⟩ : ∃ s, s = strOfNums [] := ⟨_, rfl⟩
    obtain ⟨t, ht⟩ : ∃ t, t = strOfNums ys := ⟨_, rfl⟩
    rw [← hs] at h1 e1
    rw [← ht] at h2 e1
    rw [← e1]
    clear e1 hs ht h k
    go_enter Tryd.func28, Tryd.ntmps28
    go_wp2
    go_ret
    exact ⟨rfl, rfl⟩
theorem own_addr {W : World} {B n e s : Nat} {a : Option Addr} {c m : Nat} {l : List Value} (h : W.ownsRow B e s (.slice a n c) m l) : a = none ∨ ∃ b o, a = some ⟨b, o, none⟩ := by
  rcases h.2 with ⟨h, _⟩ | ⟨g, cap, cur, h, _⟩
  · simp only [Value.slice.injEq] at h
    exact .inl h.1
  · simp only [Value.slice.injEq] at h
    exact .inr ⟨g, 0, h.1⟩
end Go.Proofs.YtjceajgefpinpaaDoor
namespace Go.Proofs.YtjceajgefpinpaaDoor
open Go.RowKit
set_option maxRecDepth 100000
set_option maxHeartbeats 4000000
set_option linter.unusedVariables false

theorem implRecGet (a : Option Addr) (n cap : Nat) (xs : List Int) (w : World) (h : Bs w a n cap xs) (hn : n ≤ 2097152) :
    Calls Tryd.prog 10 #[.slice a n cap] w fun e w' => e = .returned (goV xs) ∧ Below w.heap.size w w' := by
  obtain ⟨W, hW⟩ : ∃ W, W = w.alloc (.cells #[.int .i64 0, .int .i64 0, .int .i64 0, .int .i64 0] 24) := ⟨_, rfl⟩
  have B0 : Below w.heap.size w W := by rw [hW]; exact (Below.refl _ _).alloc (Nat.le_refl _) _
  have A0 : Arr W w.heap.size 24 [.int .i64 0, .int .i64 0, .int .i64 0, .int .i64 0] := by rw [hW]; exact Arr.new _ _ _
  have hl := h.2.1
  obtain ⟨V, hV⟩ : ∃ V, goV xs = V := ⟨_, rfl⟩
  rw [hV]
  have HV : Hid _ := hV
  clear hV
  by_cases h8 : n = 8
  case neg =>
    have h8' : ((n : Int) != 8) = true := by simp; omega
    have HN : Hid (V = .tuple #[rcV 0 0 0 0, .bool false]) := by
      unfold Hid
      rw [← HV.out, goV_no (fun h => h8 (by rw [← hl]; exact h.1))]
    clear h8
    have d0 := A0.cell 0
    have d1 := A0.cell 1
    have d2 := A0.cell 2
    have d3 := A0.cell 3
    simp at d0 d1 d2 d3
    have fR := A0.frozen
    have lR := A0.lt
    have HK : Hid _ := set4 A0 (.int .i64 0) (.int .i64 0) (.int .i64 0) (.int .i64 0)
    have HB : Hid _ := bel_set4 B0 (Nat.le_refl w.heap.size) (.int .i64 0) (.int .i64 0) (.int .i64 0) (.int .i64 0)
    clear A0 B0
    go_enter Tryd.func10, Tryd.ntmps10
    go_upto_region 1 with fail
    rw [← hW]
    clear hW
    go_wp2
    exact bodyPost_ret (results_row_tmp (v := .bool false) (t := 24) (cs := [.int .i64 0, .int .i64 0, .int .i64 0, .int .i64 0]) rfl rfl rfl HK.out Tryd.underlying24 rfl (by kernel_rfl)) rfl ⟨by rw [HN.out], HB.out⟩
  subst h8
  go_enter Tryd.func10, Tryd.ntmps10
  go_upto_region 1 with fail
  rw [← hW]
  clear hW
  have hB := h
  obtain ⟨_, _, hc, hby, h⟩ := h
  rcases h with h | ⟨b, o, rfl, hbs, hcell⟩
  · omega
  obtain ⟨x0, e0⟩ : ∃ x, x = xs.getD 0 0 := ⟨_, rfl⟩
  obtain ⟨x1, e1⟩ : ∃ x, x = xs.getD 1 0 := ⟨_, rfl⟩
  obtain ⟨x2, e2⟩ : ∃ x, x = xs.getD 2 0 := ⟨_, rfl⟩
  obtain ⟨x3, e3⟩ : ∃ x, x = xs.getD 3 0 := ⟨_, rfl⟩
  have hr0 : 0 ≤ x0 ∧ x0 < 256 := by rw [e0]; exact byte_at hby (by omega)
  have hr1 : 0 ≤ x1 ∧ x1 < 256 := by rw [e1]; exact byte_at hby (by omega)
  have hr2 : 0 ≤ x2 ∧ x2 < 256 := by rw [e2]; exact byte_at hby (by omega)
  have hr3 : 0 ≤ x3 ∧ x3 < 256 := by rw [e3]; exact byte_at hby (by omega)
  have d0 : W.cell? ⟨b, o, none⟩ = some (.int .u8 x0) := by rw [e0]; exact (B0.cell (p := ⟨b, o, none⟩) hbs).trans (hcell 0 (by omega))
  have d1 : W.cell? ⟨b, o + 1, none⟩ = some (.int .u8 x1) := by rw [e1]; exact (B0.cell (p := ⟨b, o + 1, none⟩) hbs).trans (hcell 1 (by omega))
  have d2 : W.cell? ⟨b, o + 2, none⟩ = some (.int .u8 x2) := by rw [e2]; exact (B0.cell (p := ⟨b, o + 2, none⟩) hbs).trans (hcell 2 (by omega))
  have d3 : W.cell? ⟨b, o + 3, none⟩ = some (.int .u8 x3) := by rw [e3]; exact (B0.cell (p := ⟨b, o + 3, none⟩) hbs).trans (hcell 3 (by omega))
  have E : Hid (gK xs = x0 / 2 ∧ gB xs = x0 % 2 ∧ gN xs = x1 + 256 * (x3 % 16) ∧ gF xs = x2 + 256 * (x3 / 16)) := by unfold Hid gK gB gN gF; rw [← e0, ← e1, ← e2, ← e3]; exact ⟨rfl, rfl, rfl, rfl⟩
  have q1 : x0.tdiv 2 = x0 / 2 := Int.tdiv_eq_ediv_of_nonneg (by omega)
  have q2 : x0.tmod 2 = x0 % 2 := Int.tmod_eq_emod_of_nonneg (by omega)
  have q3 : x3.tdiv 16 = x3 / 16 := Int.tdiv_eq_ediv_of_nonneg (by omega)
  have q4 : x3.tmod 16 = x3 % 16 := Int.tmod_eq_emod_of_nonneg (by omega)
  have u0 : IntKind.i64.wrap x0 = x0 := wr64 (by omega) (by omega)
  have u3 : IntKind.i64.wrap x3 = x3 := wr64 (by omega) (by omega)
  clear e0 e1 e2 e3 hcell
  go_wp2
  go_quiet (fail)
  have hq := bel_drewN W nq
  replace A0 := A0.kept hq
  replace d1 := (hq.cell (p := ⟨b, o + 1, none⟩) (Nat.lt_of_lt_of_le hbs B0.size)).trans d1
  replace d2 := (hq.cell (p := ⟨b, o + 2, none⟩) (Nat.lt_of_lt_of_le hbs B0.size)).trans d2
  have hbs2 : b < (W.drewN nq).heap.size := Nat.lt_of_lt_of_le hbs (Nat.le_trans B0.size hq.size)
  replace B0 := B0.trans (hq.mono B0.size)
  generalize W.drewN nq = W2 at A0 B0 d1 d2 hbs2 ⊢
  clear d0 d3 hq u0 u3
  go_wp2
  try simp only [Act.put]
  refine tame [kc 19 (.int .i64 x0), kc 20 (.int .i64 (x0 / 2)), kc 21 (.int .i64 x0), kc 22 (.int .i64 (x0 % 2)), kc 23 (.slice (some ⟨b, o, none⟩) 8 cap), kc 24 (.pointer (some ⟨b, o + 1, none⟩)), kc 25 (.int .u8 x1), kc 26 (.int .i64 x1), kc 27 (.int .i64 x3), kc 28 (.int .i64 (x3 % 16)), kc 29 (.int .i64 (256 * (x3 % 16))), kc 30 (.int .i64 (x1 + 256 * (x3 % 16))), kc 31 (.slice (some ⟨b, o, none⟩) 8 cap), kc 32 (.pointer (some ⟨b, o + 2, none⟩)), kc 33 (.int .u8 x2), kc 34 (.int .i64 x2), kc 35 (.int .i64 x3), kc 36 (.int .i64 (x3 / 16)), kc 37 (.int .i64 (256 * (x3 / 16))), kc 38 (.int .i64 (x2 + 256 * (x3 / 16))), kc 39 (.agg #[.int .i64 (x0 / 2), .int .i64 (x0 % 2), .int .i64 (x1 + 256 * (x3 % 16)), .int .i64 (x2 + 256 * (x3 / 16))]), ka 6 24 [.int .i64 0, .int .i64 0, .int .i64 0, .int .i64 0]] 22 (by kernel_rfl) (by kernel_rfl) (by kernel_rfl) (by repeat' first | exact trivial | apply kc_keeps | apply ka_keeps | constructor) 1 (by kernel_rfl) (fun vv ll hh yW bW => ?_) (fun vv ll hh yW bW F ivh aph => ?_)
  · have k1 := (bW.cell (p := ⟨b, o + 1, none⟩) hbs2).trans d1
    have k2 := (bW.cell (p := ⟨b, o + 2, none⟩) hbs2).trans d2
    refine ⟨tp (by kernel_rfl), tp ?_, tp (by kernel_rfl), tp ?_, tp (by kernel_rfl), tp ?_, tp ?_, tp ?_, tp (by kernel_rfl), tp ?_, tp ?_, tp ?_, tp (by kernel_rfl), tp ?_, tp ?_, tp ?_, tp (by kernel_rfl), tp ?_, tp ?_, tp ?_, tp (by kernel_rfl), ta (by kernel_rfl), trivial⟩
    all_goals
      simp only [fillK, putT, List.setIfInBounds_toArray, List.set_cons_zero, List.set_cons_succ]
      unfold execOp
      try go_simp
      all_goals first
        | (refine wr8 ?_ ?_ <;> omega)
        | (refine wr64 ?_ ?_ <;> omega)
  have f1 : Arr yW (ll 21) 24 [.int .i64 0, .int .i64 0, .int .i64 0, .int .i64 0] ∧ ll 21 < hh 21 := F.2.2.2.2.2.2.2.2.2.2.2.2.2.2.2.2.2.2.2.2.2.1
  have s1 := ivh 21 (by omega)
  clear F ivh aph
  obtain ⟨y, hy⟩ : ∃ z, z = yW := ⟨_, rfl⟩
  rw [← hy] at bW f1 s1 ⊢
  clear hy
  obtain ⟨K1, _⟩ := f1
  refine st_row (i := 22) (by kernel_rfl) rfl rfl rfl rfl (cells := [.int .i64 (x0 / 2), .int .i64 (x0 % 2), .int .i64 (x1 + 256 * (x3 % 16)), .int .i64 (x2 + 256 * (x3 / 16))]) K1 (by kernel_rfl) (by kernel_rfl) rfl (by kernel_rfl) (by intro v hv; simp at hv; rcases hv with rfl | rfl | rfl | rfl <;> rfl) ?_
  refine wpAny_done (by kernel_rfl) ?_ _
  have K2 : Arr (y.setCells (ll 21) 0 [.int .i64 (x0 / 2), .int .i64 (x0 % 2), .int .i64 (x1 + 256 * (x3 % 16)), .int .i64 (x2 + 256 * (x3 / 16))]) (ll 21) 24 [.int .i64 (x0 / 2), .int .i64 (x0 % 2), .int .i64 (x1 + 256 * (x3 % 16)), .int .i64 (x2 + 256 * (x3 / 16))] := (((K1.set 0 _).set 1 _).set 2 _).set 3 _
  generalize hg : ll 21 = g at K1 K2 s1 ⊢
  simp only [fillK, putT, List.setIfInBounds_toArray, List.set_cons_zero, List.set_cons_succ]
  clear d1 d2 q1 q2 q3 q4
  have hPg : w.heap.size ≠ g := by have := A0.lt; omega
  have A3 : Arr (y.setCells g 0 [.int .i64 (x0 / 2), .int .i64 (x0 % 2), .int .i64 (x1 + 256 * (x3 % 16)), .int .i64 (x2 + 256 * (x3 / 16))]) w.heap.size 24 [.int .i64 0, .int .i64 0, .int .i64 0, .int .i64 0] := by
    have := (((((A0.kept bW).other ⟨g, 0, none⟩ (.int .i64 (x0 / 2)) hPg).other ⟨g, 1, none⟩ (.int .i64 (x0 % 2)) hPg).other ⟨g, 2, none⟩ (.int .i64 (x1 + 256 * (x3 % 16))) hPg).other ⟨g, 3, none⟩ (.int .i64 (x2 + 256 * (x3 / 16))) hPg)
    exact this
  have B2 : Below w.heap.size w (y.setCells g 0 [.int .i64 (x0 / 2), .int .i64 (x0 % 2), .int .i64 (x1 + 256 * (x3 % 16)), .int .i64 (x2 + 256 * (x3 / 16))]) := bel_set4 (B0.trans (bW.mono B0.size)) (show w.heap.size ≤ g by have := B0.size; omega) _ _ _ _
  generalize y.setCells g 0 [.int .i64 (x0 / 2), .int .i64 (x0 % 2), .int .i64 (x1 + 256 * (x3 % 16)), .int .i64 (x2 + 256 * (x3 / 16))] = Y at K2 A3 B2 ⊢
  clear s1 bW K1 A0 B0
  obtain ⟨k, hk⟩ : ∃ k, k = x0 / 2 := ⟨_, rfl⟩
  obtain ⟨bb, hbb⟩ : ∃ k, k = x0 % 2 := ⟨_, rfl⟩
  obtain ⟨nn, hnn⟩ : ∃ k, k = x1 + 256 * (x3 % 16) := ⟨_, rfl⟩
  obtain ⟨ff, hff⟩ : ∃ k, k = x2 + 256 * (x3 / 16) := ⟨_, rfl⟩
  rw [← hk, ← hbb, ← hnn, ← hff] at K2 E
  rw [← hk, ← hbb, ← hnn, ← hff]
  clear hk hbb hnn hff hr0 hr1 hr2 hr3
  have c0 := K2.cell 0
  have c1 := K2.cell 1
  have c2 := K2.cell 2
  have c3 := K2.cell 3
  simp at c0 c1 c2 c3
  go_wp2_with fail
  refine (implRecPut k bb nn ff _).mono ?_
  rintro e w5 ⟨v5, rfl, ho5, hb5⟩
  replace K2 := K2.kept hb5
  replace A3 := A3.kept hb5
  replace B2 := B2.trans (hb5.mono B2.size)
  have hB5 := hB.below B2
  clear hb5 c0 c1 c2 c3
  obtain ⟨m5, hm5⟩ : ∃ m, m = (if rcOk k bb nn ff then 8 else 0) := ⟨_, rfl⟩
  obtain ⟨l5, hl5⟩ : ∃ m, m = (if rcOk k bb nn ff then rcB k bb nn ff else []) := ⟨_, rfl⟩
  rw [← hm5, ← hl5] at ho5
  have hby5 : ∀ x ∈ l5, 0 ≤ x ∧ x < 256 := by
    rw [hl5]
    split
    · exact rcB_byte _ _ _ _
    · intro x hx; cases hx
  obtain ⟨a5, c5, rfl, _, hbs5⟩ := Bs.own ho5 hby5
  have ha5 := own_addr ho5
  have iff5 : Hid (l5 = xs ↔ gOk xs) := by
    unfold Hid
    obtain ⟨E1, E2, E3, E4⟩ := E.out
    rw [gOk_iff hby hl, E1, E2, E3, E4, hl5]
    by_cases hh : rcOk k bb nn ff
    · rw [if_pos hh]
      exact ⟨fun q => ⟨hh, q⟩, fun q => q.2⟩
    · rw [if_neg hh]
      exact ⟨fun q => by rw [← q] at hl; simp at hl, fun q => absurd q.1 hh⟩
  clear ho5 hm5 hl5 hby5
  have c0 := K2.cell 0
  have c1 := K2.cell 1
  have c2 := K2.cell 2
  have c3 := K2.cell 3
  simp at c0 c1 c2 c3
  go_wp2_with fail
  refine (equalB' a5 m5 c5 b o 8 cap l5 xs _ hbs5 ha5 hB5).mono ?_
  rintro e w6 ⟨rfl, hw6⟩
  rw [hw6]
  clear hw6 hbs5 hB5 ha5 c0 c1 c2 c3
  by_cases hok : l5 = xs
  · rw [decide_eq_true hok]
    have c0 := K2.cell 0
    have c1 := K2.cell 1
    have c2 := K2.cell 2
    have c3 := K2.cell 3
    simp at c0 c1 c2 c3
    have d0 := A3.cell 0
    have d1 := A3.cell 1
    have d2 := A3.cell 2
    have d3 := A3.cell 3
    simp at d0 d1 d2 d3
    have fR := A3.frozen
    have lR := A3.lt
    have HK : Hid _ := set4 A3 (.int .i64 k) (.int .i64 bb) (.int .i64 nn) (.int .i64 ff)
    have HB : Hid _ := bel_set4 B2 (Nat.le_refl w.heap.size) (.int .i64 k) (.int .i64 bb) (.int .i64 nn) (.int .i64 ff)
    have HN : Hid (V = .tuple #[rcV k bb nn ff, .bool true]) := by
      unfold Hid
      obtain ⟨E1, E2, E3, E4⟩ := E.out
      rw [← HV.out, goV_yes (iff5.out.1 hok), E1, E2, E3, E4]
    clear K2 A3 hok
    go_wp2
    exact bodyPost_ret (results_row_tmp (v := .bool true) (t := 24) (cs := [.int .i64 k, .int .i64 bb, .int .i64 nn, .int .i64 ff]) rfl rfl rfl HK.out Tryd.underlying24 rfl (by kernel_rfl)) rfl ⟨by rw [HN.out], HB.out⟩
  · rw [decide_eq_false hok]
    have d0 := A3.cell 0
    have d1 := A3.cell 1
    have d2 := A3.cell 2
    have d3 := A3.cell 3
    simp at d0 d1 d2 d3
    have fR := A3.frozen
    have lR := A3.lt
    have HK : Hid _ := set4 A3 (.int .i64 0) (.int .i64 0) (.int .i64 0) (.int .i64 0)
    have HB : Hid _ := bel_set4 B2 (Nat.le_refl w.heap.size) (.int .i64 0) (.int .i64 0) (.int .i64 0) (.int .i64 0)
    have HN : Hid (V = .tuple #[rcV 0 0 0 0, .bool false]) := by
      unfold Hid
      rw [← HV.out, goV_no (fun h => hok (iff5.out.2 h))]
    clear K2 A3 hok
    go_wp2
    exact bodyPost_ret (results_row_tmp (v := .bool false) (t := 24) (cs := [.int .i64 0, .int .i64 0, .int .i64 0, .int .i64 0]) rfl rfl rfl HK.out Tryd.underlying24 rfl (by kernel_rfl)) rfl ⟨by rw [HN.out], HB.out⟩
end Go.Proofs.YtjceajgefpinpaaDoor
namespace Go.Proofs.YtjceajgefpinpaaDoor
open Go.RowKit
set_option maxRecDepth 100000
set_option maxHeartbeats 4000000

/-- A number's digits as bytes. -/
def dgs (n : Nat) : List Int := (Lib.decDigits n).map fun b => (b.toNat : Int)
theorem dgs_one {n : Nat} (h : n < 10) : dgs n = [48 + (n : Int)] := by
  unfold dgs
  rw [Lib.decDigits_one h]
  simp
  omega
theorem dgs_more {n : Nat} (h : ¬ n < 10) : dgs n = dgs (n / 10) ++ [48 + ((n % 10 : Nat) : Int)] := by
  unfold dgs
  rw [Lib.decDigits, dif_neg h, List.map_append]
  congr 1
  simp
  omega
theorem dgs_byte (n : Nat) : ∀ x ∈ dgs n, 0 ≤ x ∧ x < 256 := by
  intro x hx
  unfold dgs at hx
  rw [List.mem_map] at hx
  obtain ⟨b, _, rfl⟩ := hx
  have := b.toNat_lt
  omega
theorem dgs_len : ∀ (k n : Nat), n < 10 ^ (k + 1) → (dgs n).length ≤ k + 1
  | 0, n, h => by rw [dgs_one (by simpa using h)]; simp
  | k + 1, n, h => by
    by_cases h1 : n < 10
    · rw [dgs_one h1]; simp
    · rw [dgs_more h1, List.length_append]
      have := dgs_len k (n / 10) (by rw [Nat.pow_succ] at h; omega)
      simp
      omega
theorem dgs_le {n : Nat} (h : n ≤ 1000000) : (dgs n).length ≤ 7 := dgs_len 6 n (by omega)
theorem u8_small {x : Int} (h0 : 0 ≤ x) (h1 : x < 256) : IntKind.u8.wrap x = x := by simp [IntKind.wrap, IntKind.signed, IntKind.bits]; omega
theorem own_one (w : World) (base : Nat) (x : Int) (hb : base ≤ w.heap.size) : (w.alloc (.cells #[.int .u8 x] 5)).ownsRow base 5 1 (.slice (some ⟨w.heap.size, 0, none⟩) 1 1) 1 (U8 [x]) := World.ownsRow_lit w #[.int .u8 x] 1 hb (by unfold maxLen; omega) rfl
end Go.Proofs.YtjceajgefpinpaaDoor

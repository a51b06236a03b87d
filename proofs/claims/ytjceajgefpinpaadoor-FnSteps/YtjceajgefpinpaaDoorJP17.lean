/-
  What is proved here: append onto a row of records that the call owns; the records of a summary as plain data; what the specification's Summary answers; the summary of a state, behind a head, comes to the same state, as plain data; no program is spoken of; what the laws' logs answers; what the specification's l8digits answers: a number's decimal digits.
-/
import Derived.Test.YtjceajgefpinpaaDoorJP9
import Derived.Test.YtjceajgefpinpaaDoorJP1
import Derived.Laws.AppendOwnNone
import Derived.Test.YtjceajgefpinpaaDoorJP11
import Derived.Test.YtjceajgefpinpaaDoorC1c
import Derived.Laws.OwnMore
import Derived.Test.YtjceajgefpinpaaDoorJP8
import Derived.Lib.ItoaNum
namespace Go.Proofs.YtjceajgefpinpaaDoor
open Go.RowKit
set_option maxRecDepth 100000
set_option maxHeartbeats 4000000
set_option linter.unusedVariables false

theorem FL_one : ∀ (xs : List Rc), ∀ u ∈ FL xs, u.oneCell' = true
  | [], u, h => by cases h
  | r :: t, u, h => by
    simp only [FL, List.mem_cons] at h
    rcases h with rfl | rfl | rfl | rfl | h
    · rfl
    · rfl
    · rfl
    · rfl
    · exact FL_one t u h
theorem rs_cells {w : World} {b o n : Nat} {ys : List Rc} (hl : ys.length = n) (h : ∀ i, i < n → Rat w b (o + i * 4) (rg ys i)) (j : Nat) (u : Value) (hj : (FL ys)[j]? = some u) : w.cell? ⟨b, o + j, none⟩ = some u := by
  have hjl : j < ys.length * 4 := by rw [← FL_len]; exact (List.getElem?_eq_some_iff.1 hj).1
  have hi : j / 4 < n := by omega
  obtain ⟨a0, a1, a2, a3⟩ := FL_get ys (j / 4) (by omega)
  obtain ⟨c0, c1, c2, c3⟩ := h (j / 4) hi
  have : j = j / 4 * 4 ∨ j = j / 4 * 4 + 1 ∨ j = j / 4 * 4 + 2 ∨ j = j / 4 * 4 + 3 := by omega
  rcases this with e | e | e | e
  · rw [e] at hj ⊢; rw [a0] at hj; rw [c0]; exact hj
  · rw [e] at hj ⊢; rw [a1] at hj; rw [show o + (j / 4 * 4 + 1) = o + j / 4 * 4 + 1 by omega, c1]; exact hj
  · rw [e] at hj ⊢; rw [a2] at hj; rw [show o + (j / 4 * 4 + 2) = o + j / 4 * 4 + 2 by omega, c2]; exact hj
  · rw [e] at hj ⊢; rw [a3] at hj; rw [show o + (j / 4 * 4 + 3) = o + j / 4 * 4 + 3 by omega, c3]; exact hj
theorem wpl_append_rs {w : World} {ops : Array Oper} {rest : List Oper} {o : Oper} {a : Act} {Q : Exit → Act → World → Prop} (hgd : o.guard = none) (s x : Operand)
    (ho : o.op = .call { callee := .builtin .append, args := #[s, x], argTypes := #[49, 49] })
    (base : Nat) (v : Value) (n : Nat) (xs : List Rc) (hs : a.eval s = v) (ao : Option Addr) (m c : Nat) (ys : List Rc) (hx : a.eval x = .slice ao m c)
    (hown : w.ownsRow base 24 4 v n (FL xs)) (hb : Rs w ao m c ys) (hlen : n + m ≤ 1048576) (hbase : base ≤ w.heap.size)
    (h : ∀ v' w', w'.ownsRow base 24 4 v' (n + m) (FL (xs ++ ys)) → w.grownBy w' v.ownBlock → wpList Tryd.prog ops Q rest (a.put o.dst v') w') :
    wpList Tryd.prog ops Q (o :: rest) a w := by
  obtain ⟨i0, hi, hz0, hz1, hz2⟩ := info_parts (show (Tryd.prog.info? 24).map (fun i => (i.zero, i.size, i.bytes)) = some (some (rcV 0 0 0 0), 4, 32) by kernel_rfl)
  obtain ⟨hcap, hl, hc, hb⟩ := hb
  cases ao with
  | none =>
    have hc0 := hcap rfl
    subst hc0
    have hm : m = 0 := by omega
    subst hm
    have hy : ys = [] := List.eq_nil_of_length_eq_zero hl
    subst hy
    exact wpList_append_own_none hgd s x 49 ho base 24 i0 4 Tryd.underlying49 hi v n (FL xs) hs hown hx
      (h v w (by simpa using hown) (World.grownBy.refl _ _))
  | some ad =>
    refine wpList_append_own w hgd s x 49 ho base 24 i0 (rcV 0 0 0 0) 4 32 Tryd.underlying49 hi hz0 hz1 hz2 rfl (by decide) v n (FL xs) hs hown ad m c (FL ys) hx (by rw [FL_len, hl]) ?_ (FL_one _)
      (by unfold maxLen; omega) (by omega) hbase ?_
    · rcases hb with hb | ⟨b, off, ha, _, hcell⟩
      · intro j u hj
        have hy : ys = [] := List.eq_nil_of_length_eq_zero (by omega)
        subst hy
        simp [FL] at hj
      · obtain rfl := Option.some.inj ha
        intro j u hj
        rw [Addr.add_lit]
        exact rs_cells hl hcell j u hj
    · intro v' w' h1 h2 _
      exact h v' w' (by rw [FL_app]; exact h1) h2
/-- One new record, as a slice. -/
theorem Rs.one (w : World) (r : Rc) : Rs (w.alloc (.cells (rcC r).toArray 24)) (some ⟨w.heap.size, 0, none⟩) 1 1 [r] := by
  have A := Arr.new w (rcC r) 24
  refine ⟨(fun h => by cases h), rfl, Nat.le_refl _, .inr ⟨w.heap.size, 0, rfl, by simp, ?_⟩⟩
  intro j hj
  have : j = 0 := by omega
  subst this
  exact ⟨A.cell 0, A.cell 1, A.cell 2, A.cell 3⟩

abbrev rTry : Rc := ⟨4, 0, 0, 0⟩
/-- The records of a summary. -/
def smR (b n f : Int) (t : Bool) (i o : Int) : List Rc := if t = false then [⟨2, b, n, f⟩] else [⟨2, 1 - b, o, f⟩, ⟨3, b, n, 0⟩] ++ List.replicate i.toNat rTry
def smL (b n f : Int) (t : Bool) (i o : Int) : List Rc := if btOk b n f t i o then smR b n f t i o else []

end Go.Proofs.YtjceajgefpinpaaDoor
namespace Go.Proofs.YtjceajgefpinpaaDoor
open Go.RowKit
set_option maxRecDepth 100000
set_option maxHeartbeats 2000000
set_option linter.unusedVariables false

theorem foT_ok {l : List Rc} (h : (foT l).2 = true) : (foT l).1.Ok := by
  unfold foT at h ⊢
  split at h
  · next hc =>
    rw [if_pos hc]
    unfold foL at h ⊢
    split at h
    · next hg =>
      rw [if_pos hg]
      exact foS_ok hc.2 hg _ (by have := hg.1; omega)
    · cases h
  · cases h
theorem foT_no {l : List Rc} (h : (foT l).2 = false) : (foT l).1 = bz := by
  unfold foT at h ⊢
  split at h
  · next hc =>
    rw [if_pos hc]
    unfold foL at h ⊢
    split at h
    · cases h
    · next hg => rw [if_neg hg]
  · next hc => rw [if_neg hc]
theorem foT_of {l : List Rc} (h32 : l.length ≤ 32) (ha : foAll l) (hg : foGood l) : foT l = (foS l (l.length - 2), true) := by
  unfold foT
  rw [if_pos ⟨h32, ha⟩]
  unfold foL
  rw [if_pos hg]
abbrev rHead (x : Int) : Rc := ⟨1, 0, x, 0⟩
theorem smL_ok {s : Bt} (hs : s.Ok) : smL s.b s.n s.f s.t s.i s.o = smR s.b s.n s.f s.t s.i s.o := if_pos hs
theorem smR_ok {b n f i o : Int} {t : Bool} (h : btOk b n f t i o) : (∀ r ∈ smR b n f t i o, r.Ok) ∧ (smR b n f t i o).length ≤ 5 ∧ 1 ≤ (smR b n f t i o).length := by
  obtain ⟨h1, h2, h3, h4⟩ := h
  cases t
  · refine ⟨?_, by simp [smR], by simp [smR]⟩
    intro r hr
    simp [smR] at hr
    subst hr
    show rcOk 2 b n f
    exact .inr (.inl ⟨rfl, h1, h2, h3⟩)
  · rw [if_pos rfl] at h4
    refine ⟨?_, ?_, by simp [smR]⟩
    · intro r hr
      simp [smR] at hr
      rcases hr with rfl | rfl | ⟨_, rfl⟩
      · exact .inr (.inl ⟨rfl, by dsimp only; omega, h4.2, h3⟩)
      · exact .inr (.inr (.inl ⟨rfl, h1, h2, rfl⟩))
      · exact .inr (.inr (.inr (.inr ⟨.inl rfl, rfl, rfl, rfl⟩)))
    · simp [smR]
      omega
theorem fold_sum {s : Bt} (hs : s.Ok) (x : Int) (hx : 0 ≤ x ∧ x ≤ 1000) : foT (rHead x :: smL s.b s.n s.f s.t s.i s.o) = (s, true) := by
  rw [smL_ok hs]
  obtain ⟨b, n, f, t, i, o⟩ := s
  have hk : (∀ r ∈ smR b n f t i o, r.Ok) ∧ (smR b n f t i o).length ≤ 5 ∧ 1 ≤ (smR b n f t i o).length := smR_ok hs
  have ha : foAll (rHead x :: smR b n f t i o) := all_of (by
    intro r hr
    rw [List.mem_cons] at hr
    rcases hr with rfl | hr
    · exact .inl ⟨rfl, rfl, hx, rfl⟩
    · exact hk.1 r hr)
  obtain ⟨h1, h2, h3, h4⟩ := hs
  dsimp only at h1 h2 h3 h4
  cases t
  · simp only [Bool.false_eq_true, if_false] at h4
    obtain ⟨rfl, rfl⟩ := h4
    rw [foT_of (by simp [smR]) ha ⟨by simp [smR], rfl, rfl⟩]
    rfl
  · simp only [if_true] at h4
    have hi : i = 0 ∨ i = 1 ∨ i = 2 ∨ i = 3 := by omega
    have hb : ¬ (b = 1 - b) := by omega
    have e1 : stT ⟨1 - b, o, f, false, 0, 0⟩ ⟨3, b, n, 0⟩ = (⟨b, n, f, true, 0, o⟩, true) := by
      unfold stT
      rw [if_pos rfl, if_neg (by simp; exact hb)]
    have e2 : ∀ k : Int, k < 3 → stT ⟨b, n, f, true, k, o⟩ rTry = (⟨b, n, f, true, k + 1, o⟩, true) := by
      intro k hk
      unfold stT
      rw [if_neg (by decide), if_pos rfl, if_neg (by simp; omega)]
    rw [foT_of (by have := hk.2.1; rw [List.length_cons]; omega) ha ⟨by simp [smR], rfl, rfl⟩]
    rcases hi with rfl | rfl | rfl | rfl
    · show ((stT ⟨1 - b, o, f, false, 0, 0⟩ ⟨3, b, n, 0⟩).1, true) = _
      rw [e1]
    · show ((stT (stT ⟨1 - b, o, f, false, 0, 0⟩ ⟨3, b, n, 0⟩).1 rTry).1, true) = _
      rw [e1, e2 0 (by omega)]
      rfl
    · show ((stT (stT (stT ⟨1 - b, o, f, false, 0, 0⟩ ⟨3, b, n, 0⟩).1 rTry).1 rTry).1, true) = _
      rw [e1, e2 0 (by omega), e2 (0 + 1) (by omega)]
      rfl
    · show ((stT (stT (stT (stT ⟨1 - b, o, f, false, 0, 0⟩ ⟨3, b, n, 0⟩).1 rTry).1 rTry).1 rTry).1, true) = _
      rw [e1, e2 0 (by omega), e2 (0 + 1) (by omega), e2 (0 + 1 + 1) (by omega)]
      rfl
end Go.Proofs.YtjceajgefpinpaaDoor
namespace Go.Proofs.YtjceajgefpinpaaDoor
open Go.RowKit
set_option maxRecDepth 100000
set_option maxHeartbeats 4000000
set_option linter.unusedVariables false

theorem implLogs (w : World) : Calls Tryd.prog 9 #[] w fun e w' => e = .returned (.bool true) ∧ Below w.heap.size w w' := by
  obtain ⟨L0, hL0⟩ : ∃ L0 : List Rc, L0 = [⟨1, 0, 1, 0⟩, ⟨2, 0, 3, 2⟩] := ⟨_, rfl⟩
  have hF : foT L0 = (⟨0, 3, 2, false, 0, 0⟩, true) := by
    rw [hL0, foT_of (by simp) (all_of (by
      intro r hr
      simp at hr
      rcases hr with rfl | rfl
      · exact .inl ⟨rfl, rfl, by dsimp only; omega, rfl⟩
      · exact .inr (.inl ⟨rfl, by dsimp only; omega, by dsimp only; omega, by dsimp only; omega⟩))) ⟨by simp, rfl, rfl⟩]
    rfl
  have hl0 : L0.length = 2 := by rw [hL0]; rfl
  obtain ⟨V, hV⟩ : ∃ V, V = w.alloc (.cells #[.int .i64 1, .int .i64 0, .int .i64 1, .int .i64 0, .int .i64 2, .int .i64 0, .int .i64 3, .int .i64 2] 24) := ⟨_, rfl⟩
  have HO : Hid (Rs V (some ⟨w.heap.size, 0, none⟩) 2 2 L0) := by
    have : V.ownsRow w.heap.size 24 4 (.slice (some ⟨w.heap.size, 0, none⟩) 2 2) 2 (FL L0) := by
      rw [hV, hL0]
      exact World.ownsRow_lit w #[.int .i64 1, .int .i64 0, .int .i64 1, .int .i64 0, .int .i64 2, .int .i64 0, .int .i64 3, .int .i64 2] 2 (Nat.le_refl _) (by unfold maxLen; omega) rfl
    exact rs_of_own this
  have BV : Below w.heap.size w V := by rw [hV]; exact (Below.refl _ _).alloc (Nat.le_refl _) _
  have HF : Hid (foT L0 = (⟨0, 3, 2, false, 0, 0⟩, true)) := hF
  clear hF hL0
  go_enter Tryd.func9, Tryd.ntmps9
  go_wp2_with fail
  rw [← hV]
  clear hV
  refine (implFold (some ⟨w.heap.size, 0, none⟩) 2 2 L0 _ HO.out (by omega)).mono ?_
  rintro e w2 ⟨rfl, hb⟩
  rw [HF.out]
  dsimp only [stV, btW]
  have HB : Hid (∀ o : Obj, Below w.heap.size w (w2.alloc o)) := fun o => (BV.trans (hb.mono BV.size)).alloc (BV.trans (hb.mono BV.size)).size _
  clear hb BV HO HF
  go_wp2
  go_ret
  exact ⟨rfl, HB.out _⟩
end Go.Proofs.YtjceajgefpinpaaDoor
namespace Go.Proofs.YtjceajgefpinpaaDoor
open Go.RowKit
set_option maxRecDepth 100000
set_option maxHeartbeats 4000000

/-- A number's digits as bytes. -/
def dgs (n : Nat) : List Int := (Lib.decDigits n).map fun b => (b.toNat : Int)
theorem dgs_one {n : Nat} (h : n < 10) : dgs n = [48 + (n : Int)] := by
  unfold dgs
  rw [Lib.decDigits_one h]
  simp
  omega
theorem dgs_more {n : Nat} (h : ¬ n < 10) : dgs n = dgs (n / 10) ++ [48 + ((n % 10 : Nat) : Int)] := by
  unfold dgs
  rw [Lib.decDigits, dif_neg h, List.map_append]
  congr 1
  simp
  omega
theorem dgs_byte (n : Nat) : ∀ x ∈ dgs n, 0 ≤ x ∧ x < 256 := by
  intro x hx
  unfold dgs at hx
  rw [List.mem_map] at hx
  obtain ⟨b, _, rfl⟩ := hx
  have := b.toNat_lt
  omega
theorem dgs_len : ∀ (k n : Nat), n < 10 ^ (k + 1) → (dgs n).length ≤ k + 1
  | 0, n, h => by rw [dgs_one (by simpa using h)]; simp
  | k + 1, n, h => by
    by_cases h1 : n < 10
    · rw [dgs_one h1]; simp
    · rw [dgs_more h1, List.length_append]
      have := dgs_len k (n / 10) (by rw [Nat.pow_succ] at h; omega)
      simp
      omega
theorem dgs_le {n : Nat} (h : n ≤ 1000000) : (dgs n).length ≤ 7 := dgs_len 6 n (by omega)
theorem u8_small {x : Int} (h0 : 0 ≤ x) (h1 : x < 256) : IntKind.u8.wrap x = x := by simp [IntKind.wrap, IntKind.signed, IntKind.bits]; omega
theorem own_one (w : World) (base : Nat) (x : Int) (hb : base ≤ w.heap.size) : (w.alloc (.cells #[.int .u8 x] 5)).ownsRow base 5 1 (.slice (some ⟨w.heap.size, 0, none⟩) 1 1) 1 (U8 [x]) := World.ownsRow_lit w #[.int .u8 x] 1 hb (by unfold maxLen; omega) rfl
end Go.Proofs.YtjceajgefpinpaaDoor

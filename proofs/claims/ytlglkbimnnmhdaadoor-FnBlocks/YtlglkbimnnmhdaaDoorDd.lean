/-
  What is proved here: contracts of the specification's l2draw and DrawSha256 (bytes of the call's own, at most 299) and of the laws' more (two bytes ahead of the code); nothing that was there turns; for every code.
-/
import Derived.Test.YtlglkbimnnmhdaaDoorDr
namespace Go.Proofs.YtlglkbimnnmhdaaDoor
open Go.RowKit

/-- As wpl_append_bs, up to the greatest length that memory bears. -/
theorem wpl_append_big {w : World} {ops : Array Oper} {rest : List Oper} {o : Oper} {a : Act} {Q : Exit → Act → World → Prop} (hgd : o.guard = none) (s x : Operand)
    (ho : o.op = .call { callee := .builtin .append, args := #[s, x], argTypes := #[22, 22] })
    (base : Nat) (v : Value) (n : Nat) (xs : List Int) (hs : a.eval s = v) (ao : Option Addr) (m c : Nat) (ys : List Int) (hx : a.eval x = .slice ao m c)
    (hown : w.ownsRow base 5 1 v n (U8 xs)) (hb : Bs w ao m c ys) (hlen : n + m ≤ 140737488355328) (hbase : base ≤ w.heap.size)
    (h : ∀ v' w', w'.ownsRow base 5 1 v' (n + m) (U8 (xs ++ ys)) → w.grownBy w' v.ownBlock → (v' = .slice none 0 0 ↔ v = .slice none 0 0 ∧ m = 0) → wpList Tryd.prog ops Q rest (a.put o.dst v') w') :
    wpList Tryd.prog ops Q (o :: rest) a w := by
  obtain ⟨i0, hi, hz0, hz1, hz2⟩ := info_parts Tryd.info5
  obtain ⟨hcap, hl, hc, _, hb⟩ := hb
  cases ao with
  | none =>
    have hc0 := hcap rfl
    subst hc0
    have hm : m = 0 := by omega
    subst hm
    have hy : ys = [] := List.eq_nil_of_length_eq_zero hl
    subst hy
    exact wpList_append_own_none hgd s x 22 ho base 5 i0 1 Tryd.underlying22 hi v n (U8 xs) hs hown hx
      (h v w (by simpa using hown) (World.grownBy.refl _ _) (by simp))
  | some ad =>
    refine wpList_append_own w hgd s x 22 ho base 5 i0 (.int .u8 0) 1 1 Tryd.underlying22 hi hz0 hz1 hz2 rfl (by decide) v n (U8 xs) hs hown ad m c (U8 ys) hx (by simp [hl]) ?_ (ints_oneCell _ _)
      (by unfold maxLen; omega) (by omega) hbase ?_
    · rcases hb with hb | ⟨b, off, ha, _, hcell⟩
      · intro j u hj
        have hy : ys = [] := List.eq_nil_of_length_eq_zero (by omega)
        subst hy
        simp at hj
      · obtain rfl := Option.some.inj ha
        intro j u hj
        have hjl : j < m := by
          have := (List.getElem?_eq_some_iff.1 hj).1
          simpa [hl] using this
        rw [Addr.add_lit, hcell j hjl]
        have e : (U8 ys)[j]? = some (.int .u8 (ys.getD j 0)) := by simp [show j < ys.length by omega]
        rw [e] at hj
        exact hj
    · intro v' w' h1 h2 h3
      exact h v' w' (by simpa using h1) h2 h3

set_option maxHeartbeats 1000000 in
theorem curL2draw (p : Nat) (a : Option Addr) (n c : Nat) (xs : List Int) (w : World) (hcur : Cur w p a n c) (hcode : Coded w p a n c xs) :
    Calls Tryd.prog 40 #[.pointer (some ⟨p, 0, none⟩)] w fun e w' => ∃ (v : Value) (l : List Int), e = .returned v ∧ l.length ≤ 299 ∧ (∀ x ∈ l, 0 ≤ x ∧ x < 256) ∧ w'.ownsRow w.heap.size 5 1 v l.length (U8 l) ∧ Cur w' p a n c ∧ w.grownBy w' (some p) := by
  have hp0 := cur_lt hcur
  go_enter Tryd.func40, Tryd.ntmps40
  go_wp2_with fail
  refine (curBelow p a n c xs _ _ hcur hcode (by omega)).mono ?_
  rintro e w1 ⟨k, rfl, hk0, hk1, _, hc1, hg1⟩
  have hk2 := hk1 (by omega)
  have hd1 := hcode.grown hg1
  have hs1 := hg1.size
  clear hk1 hcur
  go_wp2_with fail
  have hgA := grown_alloc w1 (.cells (([0, 1, 3, 55, 56, 63, 64, 65, 119, 120, 128, k] : List Int).map (Value.int .i64)).toArray 3) none
  have hcA := cur_keep hc1 hgA (by simp)
  have hdA := hd1.grown (grown_alloc w1 (.cells (([0, 1, 3, 55, 56, 63, 64, 65, 119, 120, 128, k] : List Int).map (Value.int .i64)).toArray 3) (some p))
  have hcell := cells_arr w1 [0, 1, 3, 55, 56, 63, 64, 65, 119, 120, 128, k] 3
  refine (curPick p a n c xs w1.heap.size 12 [0, 1, 3, 55, 56, 63, 64, 65, 119, 120, 128, k] _ hcA hdA rfl (by omega) (by omega) (by omega) (fun j hj => hcell j hj)).mono ?_
  rintro e w2 ⟨x, rfl, hx, hc2, hg2⟩
  have hgr := grown_trans (grown_into hg1 hgA (by intro k hk; cases hk)) hg2
  have hb : 0 ≤ x ∧ x ≤ 299 := by
    simp only [List.mem_cons, List.not_mem_nil, or_false] at hx
    omega
  obtain ⟨hm0, hm2⟩ := hb
  clear hgA hcA hdA hcell hx hg2 hg1 hc1 hd1
  obtain ⟨M, rfl⟩ := Int.eq_ofNat_of_zero_le hm0
  go_wp2
  go_loopw [3, 5] (fun v i wr => ∃ (l : List Int), l.length ≤ M ∧ i = .int .i64 (l.length : Int) ∧ Hid (∀ x ∈ l, 0 ≤ x ∧ x < 256) ∧ wr.ownsRow w.heap.size 5 1 v l.length (U8 l) ∧ Cur wr p a n c ∧ w.grownBy wr (some p)) (fun _ i _ => M - (intOf i).toNat)
  case atStart => exact ⟨[], by simp, rfl, (fun x hx => by cases hx), World.ownsRow_nil _ _ _ _, hc2, hgr⟩
  case round =>
    obtain ⟨l, hlM, rfl, HL, hown, hcu, hgr'⟩ := hrel
    clear hc2 hgr
    by_cases hlt : l.length < M
    · have hcd := hcode.grown hgr'
      go_wp2_with fail
      refine (curByte p a n c xs _ hcu hcd).mono ?_
      rintro e w3 ⟨x, rfl, hx0, hx1, hc3, hg3⟩
      have hgr2 := grown_trans hgr' hg3
      have hown2 := hown.kept hg3 (by
        cases hv : u3.ownBlock with
        | none => exact .inl rfl
        | some k => exact .inr (fun e => by have := (hown.lt k hv).1; simp at e; omega))
      have hs2 := hgr2.size
      have hcv : IntKind.u8.wrap x = x := by simp [IntKind.wrap, IntKind.signed, IntKind.bits]; omega
      clear hown hcu hgr' hg3 hcd
      go_wp2_with (at_builtin; refine wpl_append_bs rfl _ _ rfl w.heap.size _ l.length l rfl (some ⟨w3.heap.size, 0, none⟩) 1 1 [x] rfl (hown2.alloc _) (Bs.one _ _ hx0 (by omega)) ?_ ?_ ?_)
      · omega
      · first | omega | (simp; omega)
      intro v' w4 h1 h2 _
      have hr : ∀ k, u3.ownBlock = some k → w.heap.size ≤ k ∨ k = p := fun k hk => .inl (hown2.lt k hk).1
      have hgr3 := grown_into (grown_into hgr2 (grown_alloc w3 _ none) (by intro k hk; cases hk)) h2 hr
      have hc4 : Cur w4 p a n c := cur_keep (cur_keep hc3 (grown_alloc w3 _ none) (by simp)) h2 (fun e => by have := (hown2.lt p e).1; omega)
      have HR : Hid (w4.ownsRow w.heap.size 5 1 v' (l ++ [x]).length (U8 (l ++ [x]))) := by unfold Hid; simpa using h1
      have HL2 : Hid (∀ z ∈ l ++ [x], 0 ≤ z ∧ z < 256) := fun z hz => by
        rcases List.mem_append.1 hz with k | k
        · exact HL.out z k
        · simp at k; omega
      clear h1 h2 hown2 hc3 hgr2 hr
      go_wp2
      go_roundw
      case rel => exact ⟨l ++ [x], by simp; omega, by simp, HL2, HR.out, hc4, hgr3⟩
      case measure => simp [intOf]; omega
    · go_wp2
      go_ret
      exact ⟨_, l, rfl, by omega, HL.out, hown, hcu, hgr'⟩

set_option maxHeartbeats 1000000 in
theorem drawSha256 (a : Option Addr) (n c : Nat) (xs : List Int) (w : World) (h : Bs w a n c xs) (hm : n ≤ 9223372036854775807) :
    Calls Tryd.prog 10 #[.slice a n c] w fun e w' => ∃ (v : Value) (l : List Int), e = .returned v ∧ l.length ≤ 299 ∧ (∀ x ∈ l, 0 ≤ x ∧ x < 256) ∧ w'.ownsRow w.heap.size 5 1 v l.length (U8 l) ∧ Below w.heap.size w w' := by
  go_enter Tryd.func10, Tryd.ntmps10
  go_wp2_with fail
  refine (curNew a n c xs _ h hm).mono ?_
  rintro e w1 ⟨rfl, hc1, hd1, hs1, hb1⟩
  have D1 : Dw w w1 a n c := ⟨hb1, hc1⟩
  go_wp2_with fail
  refine (curL2draw w.heap.size a n c xs _ hc1 hd1).mono ?_
  rintro e w2 ⟨v, l, rfl, hl, hlb, ho, hc2, hg2⟩
  have D2 := D1.draw hc2 hg2
  have R := own_base ho (show w.heap.size ≤ w1.heap.size by omega)
  clear hc1 hd1 hb1 D1 ho hc2 hg2
  have HLB : Hid _ := hlb
  clear hlb
  go_wp2
  go_ret
  exact ⟨_, l, rfl, hl, HLB.out, R, D2.fr⟩

set_option maxHeartbeats 1000000 in
theorem moreOne (a : Option Addr) (n c : Nat) (xs : List Int) (w : World) (h : Bs w a n c xs) (hm : n ≤ 140737488351232) :
    Calls Tryd.prog 11 #[.slice a n c, .int .i64 1] w fun e w' => ∃ v, e = .returned v ∧ w'.ownsRow w.heap.size 5 1 v (2 + n) (U8 (1 :: 7 :: xs)) ∧ Below w.heap.size w w' := by
  have hby := h.2.2.2.1
  have o1 : (w.alloc (.cells #[.int .u8 1, .int .u8 7] 5)).ownsRow w.heap.size 5 1 (.slice (some ⟨w.heap.size, 0, none⟩) 2 2) 2 (U8 [1, 7]) := ⟨rfl, .inr ⟨w.heap.size, 2, #[.int .u8 1, .int .u8 7], rfl, Nat.le_refl _, heap_alloc_new _ _, Nat.le_refl _, by unfold maxLen; omega, rfl, rfl⟩⟩
  have b1 : Below w.heap.size w (w.alloc (.cells #[.int .u8 1, .int .u8 7] 5)) := (Below.refl _ _).alloc (Nat.le_refl _) _
  have h1 := h.below b1
  go_enter Tryd.func11, Tryd.ntmps11
  go_wp2_with (at_builtin; refine wpl_append_big rfl _ _ rfl w.heap.size _ 2 [1, 7] rfl a n c xs rfl o1 h1 ?_ ?_ ?_)
  · omega
  · simp
  intro v' w' h2 h3 _
  have hb2 := below_app0 b1 (by simp) o1 h3
  have HR : Hid (w'.ownsRow w.heap.size 5 1 v' (2 + n) (U8 (1 :: 7 :: xs))) := by unfold Hid; simpa using h2
  clear h2 h3 o1 b1 h1
  go_wp2
  go_ret
  exact ⟨_, rfl, HR.out, hb2⟩
end Go.Proofs.YtlglkbimnnmhdaaDoor

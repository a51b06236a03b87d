/-
  What is proved here: what the program's recordsThatMayBe tells a loop that ranges over it.
-/
import Derived.RangeFuncNested
import Derived.RangeFuncBound
import Derived.RangeFuncCalls
import Derived.RangeFuncLeaves
import Derived.Shelf.Abstract
import Derived.Shelf.RegionOpen
import Derived.OwnWalkIn
import Derived.TacticsInMore
import Derived.LoopNIn
import Derived.LoopIn
import Derived.Test.YtjceajgefpinpaaJN12
import Derived.Test.YtjceajgefpinpaaJN7
namespace Go.Proofs.Ytjceajgefpinpaa
open Go.RowKit Go.Shelf
set_option maxRecDepth 100000
set_option maxHeartbeats 4000000
set_option linter.unusedVariables false
attribute [local go_sem] Oper.semAt_some

/-- The first m records, each with its place. -/
def sq (l : List Rc) (m : Nat) : List (Nat × Rc) := (List.range m).map fun i => (i, rg l i)
theorem sq_len (l : List Rc) (m : Nat) : (sq l m).length = m := by simp [sq]
theorem sq_succ (l : List Rc) (m : Nat) : sq l (m + 1) = sq l m ++ [(m, rg l m)] := by simp [sq, List.range_succ]
abbrev eP (x : Nat × Rc) : Array Value := #[.int .i64 (x.1 : Int), rcV x.2.k x.2.b x.2.n x.2.f]
theorem grown_bel {w w' : World} (h : Below w.heap.size w w') : w.grownBy w' none := ⟨h.os, h.tape, h.output, h.size, fun i hi _ => h.block i hi⟩

theorem implMay (a : Option Addr) (n c : Nat) (w : World) :
    Calls Try.prog 55 #[.slice a n c] w fun e w' => e = .returned (.func (.func 77) #[] #[.pointer (some ⟨w.heap.size, 0, none⟩)]) ∧
      Arr w' w.heap.size 24 [.slice a n c] ∧ w'.heap.size = w.heap.size + 1 ∧ Below w.heap.size w w' := by
  obtain ⟨W, hW⟩ : ∃ W, W = w.alloc (.cells #[.slice a n c] 24) := ⟨_, rfl⟩
  have h1 : Arr W w.heap.size 24 [.slice a n c] := by rw [hW]; exact Arr.new w [.slice a n c] _
  have h3 : W.heap.size = w.heap.size + 1 := by rw [hW]; simp
  have hB : Below w.heap.size w W := by rw [hW]; exact (Below.refl _ _).alloc (Nat.le_refl _) _
  go_enter Try.func55, Try.ntmps55
  go_wp2
  rw [← hW]
  go_ret
  exact ⟨rfl, h1, h3, hB⟩

theorem mayStops (m p : Nat) (a : Option Addr) (n c : Nat) (l : List Rc) (w0 w : World) (hx : Rs w0 a n c l) (hn : n ≤ 1048576) (hb0 : Below w0.heap.size w0 w) (hp : Arr w p 24 [.slice a n c]) :
    SeqStopsK Fence.wide m Try.prog 77 #[.pointer (some ⟨p, 0, none⟩)] eP (Below w0.heap.size)
      (fun ys => ∃ k, k ≤ n ∧ ys = sq l k ∧ (∀ i, i < k → (rg l i).Ok) ∧ (k = n ∨ ¬ (rg l k).Ok))
      (fun pre => ∃ k, k < n ∧ pre = sq l (k + 1) ∧ ∀ i, i < k + 1 → (rg l i).Ok) n w := by
  intro lp J Jx W hW hJ hJx hY h0
  have hpc : W.cell? ⟨p, 0, none⟩ = some (.slice a n c) := (hp.kept hW).cell 0
  have hwide : Fence.wide.depth.isSome = true → 1 ≤ m := fun h => by cases h
  have bW0 : Below w0.heap.size w0 W := hb0.trans (hW.mono hb0.size)
  refine callsIn_of_wp Try.func77 rfl trivial ?_ rfl
  simp only [Try.ntmps77, List.size_toArray, List.length_cons, List.length_nil, Nat.reduceAdd, Nat.reduceSub, Array.replicate_succ, Array.replicate_zero, List.push_toArray, List.append_toArray, List.nil_append, List.cons_append]
  gi_wp2
  gi_loopw [7] (fun i wr => ∃ k : Nat, k ≤ n ∧ i = .int .i64 k ∧ J (sq l k) wr ∧ Hid (∀ q, q < k → (rg l q).Ok) ∧ Below w0.heap.size w0 wr ∧ W.heap.size ≤ wr.heap.size) (fun i _ => n - (intOf i).toNat)
  case atStart => exact ⟨0, by omega, rfl, h0, (fun q hq => by omega), bW0, Nat.le_refl _⟩
  case round =>
    clear h0 hpc bW0
    obtain ⟨k, hk, rfl, hJk, HO, bk, sz⟩ := hrel
    by_cases hlt : k < n
    · obtain ⟨b, o, rfl, hbs, hcell⟩ := hx.opened (by omega)
      have hr := hcell k hlt
      obtain ⟨r, er⟩ : ∃ r, r = rg l k := ⟨_, rfl⟩
      rw [← er] at hr
      have ER : Hid _ := er
      clear er hcell
      obtain ⟨rk, rb, rn, rf⟩ := r
      obtain ⟨c0, c1, c2, c3⟩ := hr.below hbs bk
      dsimp only at c0 c1 c2 c3
      obtain ⟨W1, hW1⟩ : ∃ W1, W1 = wr.alloc (.cells #[.int .i64 rk, .int .i64 rb, .int .i64 rn, .int .i64 rf] 29) := ⟨_, rfl⟩
      have R : Arr W1 wr.heap.size 29 [.int .i64 rk, .int .i64 rb, .int .i64 rn, .int .i64 rf] := by rw [hW1]; exact Arr.new _ _ _
      have b1 : Below wr.heap.size wr W1 := by rw [hW1]; exact (Below.refl _ _).alloc (Nat.le_refl _) _
      have hltI : (k : Int) < (n : Int) := by omega
      gi_wp2_with fail
      rw [← hW1]
      clear hW1
      refine ⟨trivial, hwide, (callsIn_wide.2 (implRecOk rk rb rn rf W1)).mono ?_⟩
      rintro e w2 ⟨rfl, hb2⟩
      have b2 := b1.trans (hb2.mono b1.size)
      have R2 := R.kept hb2
      have hJ2 : J (sq l k) w2 := hJ _ wr w2 none hJk (grown_bel b2) (fun r e => by cases e)
      have bk2 := bk.trans (b2.mono bk.size)
      have sz2 : W.heap.size ≤ w2.heap.size := Nat.le_trans sz b2.size
      have d0 := R2.cell 0
      have d1 := R2.cell 1
      have d2 := R2.cell 2
      have d3 := R2.cell 3
      simp at d0 d1 d2 d3
      clear hJk bk sz b1 hb2 b2 R c0 c1 c2 c3
      by_cases hok : rcOk rk rb rn rf
      · rw [decide_eq_true hok]
        obtain ⟨fn, tmps, assign, body, hy, hR⟩ := hY (sq l k) (k, ⟨rk, rb, rn, rf⟩) w2 hJ2 (by rw [sq_len]; exact hlt)
        try dsimp only [eP] at hy
        have HOK : Hid (rcOk rk rb rn rf) := hok
        clear hok
        have HQ : Hid (sq l k ++ [(k, ⟨rk, rb, rn, rf⟩)] = sq l (k + 1)) := by unfold Hid; rw [sq_succ, ← ER.out]
        have HO2 : Hid (∀ q, q < k + 1 → (rg l q).Ok) := fun q hq => by
          by_cases e : q = k
          · subst e; rw [← ER.out]; exact HOK.out
          · exact HO.out q (by omega)
        clear HO HOK ER
        gi_wp2
        refine ⟨hwide, hR.mono ?_⟩
        rintro e w4 (⟨rfl, hJ4, hk4⟩ | ⟨rfl, hJ4⟩)
        · rw [HQ.out] at hJ4
          have bk4 := bk2.trans hk4
          have sz4 : W.heap.size ≤ w4.heap.size := Nat.le_trans sz2 hk4.size
          clear hJ2 bk2 sz2 d0 d1 d2 d3 hy hR R2
          gi_wp2
          go_roundw
          case rel => exact ⟨k + 1, by omega, by go_num, hJ4, HO2, bk4, sz4⟩
          case measure => simp [intOf]; omega
        · rw [HQ.out] at hJ4
          gi_wp2
          refine bodyPost_ret (results_none rfl _ _ _) rfl ?_
          exact ⟨⟨_, rfl⟩, .inr ⟨_, ⟨k, hlt, rfl, HO2.out⟩, hJ4⟩⟩
      · rw [decide_eq_false hok]
        have HN : Hid (¬ (rg l k).Ok) := by unfold Hid; rw [← ER.out]; exact hok
        clear hok ER
        gi_wp2
        first
          | (refine bodyPost_ret (results_none rfl _ _ _) rfl ?_
             exact ⟨⟨_, rfl⟩, .inl ⟨_, ⟨k, hk, rfl, HO.out, .inr HN.out⟩, hJ2⟩⟩)
          | (refine ⟨fun _ h => (by cases h), ?_⟩
             gi_wp2
             refine bodyPost_ret (results_none rfl _ _ _) rfl ?_
             exact ⟨⟨_, rfl⟩, .inl ⟨_, ⟨k, hk, rfl, HO.out, .inr HN.out⟩, hJ2⟩⟩)
    · have hkn : k = n := by omega
      subst hkn
      gi_wp2
      go_end0
      exact ⟨⟨_, rfl⟩, .inl ⟨_, ⟨k, hk, rfl, HO.out, .inl rfl⟩, hJk⟩⟩
end Go.Proofs.Ytjceajgefpinpaa

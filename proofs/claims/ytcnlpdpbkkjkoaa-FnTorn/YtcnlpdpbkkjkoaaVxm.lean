/-
  What is proved here: the contract of l7msg: a few drawn bytes of the call's own; nothing that was there turns but the cursor; for every code.
-/
import Derived.Test.YtcnlpdpbkkjkoaaDr
namespace Go.Proofs.Ytcnlpdpbkkjkoaa
open Go.RowKit
set_option maxRecDepth 100000

/-- A loop that appends drawn bytes leaves at most K bytes of the call's own. -/
structure Msg (w W : World) (p : Nat) (a : Option Addr) (n c : Nat) (v : Value) (l : List Int) : Prop where
  byt : ∀ x ∈ l, 0 ≤ x ∧ x < 256
  own : W.ownsRow w.heap.size 5 1 v l.length (U8 l)
  cur : Cur W p a n c
  gr : w.grownBy W (some p)
theorem Msg.step {w W W1 W' : World} {p n c : Nat} {a : Option Addr} {v v' : Value} {l : List Int} {x : Int} (hp : p < w.heap.size) (h : Msg w W p a n c v l) (hg : W.grownBy W1 (some p)) (hc : Cur W1 p a n c) (hx : 0 ≤ x ∧ x ≤ 255) (o : Obj)
    (h1 : W'.ownsRow w.heap.size 5 1 v' (l.length + 1) (U8 (l ++ [x]))) (h2 : (W1.alloc o).grownBy W' v.ownBlock) : Msg w W' p a n c v' (l ++ [x]) := by
  have hown2 := h.own.kept hg (by
    cases hv : v.ownBlock with
    | none => exact .inl rfl
    | some k => exact .inr (fun e => by have := (h.own.lt k hv).1; simp at e; omega))
  refine ⟨fun z hz => ?_, by simpa using h1, ?_, ?_⟩
  · rcases List.mem_append.1 hz with k | k
    · exact h.byt z k
    · simp at k; omega
  · exact cur_keep (cur_keep hc (grown_alloc W1 _ none) (by simp)) h2 (fun e => by have := (hown2.lt p e).1; omega)
  · exact grown_into (grown_into (grown_trans h.gr hg) (grown_alloc W1 _ none) (by intro k hk; cases hk)) h2 (fun k hk => .inl (hown2.lt k hk).1)
theorem Msg.own1 {w W W1 : World} {p n c : Nat} {a : Option Addr} {v : Value} {l : List Int} (hp : p < w.heap.size) (h : Msg w W p a n c v l) (hg : W.grownBy W1 (some p)) : W1.ownsRow w.heap.size 5 1 v l.length (U8 l) :=
  h.own.kept hg (by
    cases hv : v.ownBlock with
    | none => exact .inl rfl
    | some k => exact .inr (fun e => by have := (h.own.lt k hv).1; simp at e; omega))

set_option maxHeartbeats 1000000 in
theorem curMsg (p : Nat) (a : Option Addr) (n c : Nat) (xs : List Int) (w : World) (hcur : Cur w p a n c) (hcode : Coded w p a n c xs) :
    Calls Try.prog 57 #[.pointer (some ⟨p, 0, none⟩)] w fun e w' => ∃ (v : Value) (l : List Int), e = .returned v ∧ l.length ≤ 11 ∧ Msg w w' p a n c v l := by
  have hp0 := cur_lt hcur
  go_enter Try.func57, Try.ntmps57
  go_wp2_with fail
  refine (curBelow p a n c xs _ _ hcur hcode (by omega)).mono ?_
  rintro e w1 ⟨k, rfl, hk0, hk1, _, hc1, hg1⟩
  have hk2 := hk1 (by omega)
  clear hk1 hcur
  obtain ⟨M, rfl⟩ := Int.eq_ofNat_of_zero_le hk0
  have A0 : Msg w w1 p a n c (.slice none 0 0) [] := ⟨(fun x hx => by cases hx), World.ownsRow_nil _ _ _ _, hc1, hg1⟩
  clear hc1 hg1
  go_wp2
  go_loopw [3, 5] (fun v i wr => ∃ (l : List Int), l.length ≤ M ∧ i = .int .i64 (l.length : Int) ∧ Msg w wr p a n c v l) (fun _ i _ => M - (intOf i).toNat)
  case atStart => exact ⟨[], by simp, rfl, A0⟩
  case round =>
    obtain ⟨l, hlM, rfl, A⟩ := hrel
    clear A0
    by_cases hlt : l.length < M
    · have hcd := hcode.grown A.gr
      go_wp2_with fail
      refine (curByte p a n c xs _ A.cur hcd).mono ?_
      rintro e w3 ⟨x, rfl, hx0, hx1, hc3, hg3⟩
      have hcv : IntKind.u8.wrap x = x := by simp [IntKind.wrap, IntKind.signed, IntKind.bits]; omega
      have ow := A.own1 hp0 hg3
      have hs2 := (grown_trans A.gr hg3).size
      go_wp2_with (at_builtin; refine wpl_append_bs rfl _ _ rfl w.heap.size _ l.length l rfl (some ⟨w3.heap.size, 0, none⟩) 1 1 [x] rfl (ow.alloc _) (Bs.one _ _ hx0 (by omega)) ?_ ?_ ?_)
      · omega
      · first | omega | (simp; omega)
      intro v' w4 h1 h2 _
      have A2 := A.step hp0 hg3 hc3 ⟨hx0, hx1⟩ _ (by simpa [U8] using h1) h2
      clear h1 h2 ow hc3 hg3 A hcd
      go_wp2
      go_roundw
      case rel => exact ⟨l ++ [x], by simp; omega, by simp, A2⟩
      case measure => simp [intOf]; omega
    · go_wp2
      go_ret
      exact ⟨_, l, rfl, by omega, A⟩


end Go.Proofs.Ytcnlpdpbkkjkoaa

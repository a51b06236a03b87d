/-
  What is proved here: contracts of what is drawn for signatures (l7msg, l7seed, DrawClamp): bytes of the call's own; nothing that was there turns; for every code; the contract of the specification's DrawSign: two slices of bytes, at most 33 and 2001; nothing that was there turns; for every code; contracts of the library's errors.Is at the program's faults and at none, the target being what the program's variable holds; the contract of the program's Verify; where its variables hold what its text lays; the contracts of the program's ScAdd and ScMul: the sum and the product of two multipliers; where the program's variable holds the order.
-/
import Derived.Test.YtihoaakbkffejaaGreatDoorSVt
import Derived.Test.YtihoaakbkffejaaGreatDoorSVh
import Derived.OwnWalk
import Derived.Test.YtihoaakbkffejaaGreatDoorSFm
import Derived.Test.YtihoaakbkffejaaGreatDoorSFr
import Derived.WalkKit
import Derived.LaidEql
import Derived.Stop.Asserts
import Derived.RowKitTokens
import Derived.Test.YtihoaakbkffejaaGreatDoorSQja
import Derived.Test.YtihoaakbkffejaaGreatDoorSQh
namespace Go.Proofs.YtihoaakbkffejaaGreatDoor
open Go.RowKit
set_option maxRecDepth 100000

/-- A loop that appends drawn bytes leaves at most K bytes of the call's own. -/
structure Msg (w W : World) (p : Nat) (a : Option Addr) (n c : Nat) (v : Value) (l : List Int) : Prop where
  byt : ∀ x ∈ l, 0 ≤ x ∧ x < 256
  own : W.ownsRow w.heap.size 5 1 v l.length (U8 l)
  cur : Cur W p a n c
  gr : w.grownBy W (some p)
theorem Msg.step {w W W1 W' : World} {p n c : Nat} {a : Option Addr} {v v' : Value} {l : List Int} {x : Int} (hp : p < w.heap.size) (h : Msg w W p a n c v l) (hg : W.grownBy W1 (some p)) (hc : Cur W1 p a n c) (hx : 0 ≤ x ∧ x ≤ 255) (o : Obj)
    (h1 : W'.ownsRow w.heap.size 5 1 v' (l.length + 1) (U8 (l ++ [x]))) (h2 : (W1.alloc o).grownBy W' v.ownBlock) : Msg w W' p a n c v' (l ++ [x]) := by
  have hown2 := h.own.kept hg (by
    cases hv : v.ownBlock with
    | none => exact .inl rfl
    | some k => exact .inr (fun e => by have := (h.own.lt k hv).1; simp at e; omega))
  refine ⟨fun z hz => ?_, by simpa using h1, ?_, ?_⟩
  · rcases List.mem_append.1 hz with k | k
    · exact h.byt z k
    · simp at k; omega
  · exact cur_keep (cur_keep hc (grown_alloc W1 _ none) (by simp)) h2 (fun e => by have := (hown2.lt p e).1; omega)
  · exact grown_into (grown_into (grown_trans h.gr hg) (grown_alloc W1 _ none) (by intro k hk; cases hk)) h2 (fun k hk => .inl (hown2.lt k hk).1)
theorem Msg.own1 {w W W1 : World} {p n c : Nat} {a : Option Addr} {v : Value} {l : List Int} (hp : p < w.heap.size) (h : Msg w W p a n c v l) (hg : W.grownBy W1 (some p)) : W1.ownsRow w.heap.size 5 1 v l.length (U8 l) :=
  h.own.kept hg (by
    cases hv : v.ownBlock with
    | none => exact .inl rfl
    | some k => exact .inr (fun e => by have := (h.own.lt k hv).1; simp at e; omega))

set_option maxHeartbeats 1000000 in
theorem curMsg (p : Nat) (a : Option Addr) (n c : Nat) (xs : List Int) (w : World) (hcur : Cur w p a n c) (hcode : Coded w p a n c xs) :
    Calls Tryz.prog 29 #[.pointer (some ⟨p, 0, none⟩)] w fun e w' => ∃ (v : Value) (l : List Int), e = .returned v ∧ l.length ≤ 11 ∧ Msg w w' p a n c v l := by
  have hp0 := cur_lt hcur
  go_enter Tryz.func29, Tryz.ntmps29
  go_wp2_with fail
  refine (curBelow p a n c xs _ _ hcur hcode (by omega)).mono ?_
  rintro e w1 ⟨k, rfl, hk0, hk1, _, hc1, hg1⟩
  have hk2 := hk1 (by omega)
  clear hk1 hcur
  obtain ⟨M, rfl⟩ := Int.eq_ofNat_of_zero_le hk0
  have A0 : Msg w w1 p a n c (.slice none 0 0) [] := ⟨(fun x hx => by cases hx), World.ownsRow_nil _ _ _ _, hc1, hg1⟩
  clear hc1 hg1
  go_wp2
  go_loopw [3, 5] (fun v i wr => ∃ (l : List Int), l.length ≤ M ∧ i = .int .i64 (l.length : Int) ∧ Msg w wr p a n c v l) (fun _ i _ => M - (intOf i).toNat)
  case atStart => exact ⟨[], by simp, rfl, A0⟩
  case round =>
    obtain ⟨l, hlM, rfl, A⟩ := hrel
    clear A0
    by_cases hlt : l.length < M
    · have hcd := hcode.grown A.gr
      go_wp2_with fail
      refine (curByte p a n c xs _ A.cur hcd).mono ?_
      rintro e w3 ⟨x, rfl, hx0, hx1, hc3, hg3⟩
      have hcv : IntKind.u8.wrap x = x := by simp [IntKind.wrap, IntKind.signed, IntKind.bits]; omega
      have ow := A.own1 hp0 hg3
      have hs2 := (grown_trans A.gr hg3).size
      go_wp2_with (at_builtin; refine wpl_append_bs rfl _ _ rfl w.heap.size _ l.length l rfl (some ⟨w3.heap.size, 0, none⟩) 1 1 [x] rfl (ow.alloc _) (Bs.one _ _ hx0 (by omega)) ?_ ?_ ?_)
      · omega
      · first | omega | (simp; omega)
      intro v' w4 h1 h2 _
      have A2 := A.step hp0 hg3 hc3 ⟨hx0, hx1⟩ _ (by simpa [U8] using h1) h2
      clear h1 h2 ow hc3 hg3 A hcd
      go_wp2
      go_roundw
      case rel => exact ⟨l ++ [x], by simp; omega, by simp, A2⟩
      case measure => simp [intOf]; omega
    · go_wp2
      go_ret
      exact ⟨_, l, rfl, by omega, A⟩


set_option maxHeartbeats 1000000 in
theorem specSeed (N : Int) (w : World) (h0 : 0 ≤ N) (h1 : N ≤ 6) :
    Calls Tryz.prog 33 #[.int .i64 N] w fun e w' => ∃ g l, e = .returned (.slice (some ⟨g, 0, none⟩) 32 32) ∧ Bs w' (some ⟨g, 0, none⟩) 32 32 l ∧ Below w.heap.size w w' := by
  have hmk := make32
  have hc1 : IntKind.u8.wrap N = N := by simp [IntKind.wrap, IntKind.signed, IntKind.bits]; omega
  have hc2 : IntKind.u8.wrap (7 * N) = 7 * N := by simp [IntKind.wrap, IntKind.signed, IntKind.bits]; omega
  obtain ⟨W, hW⟩ : ∃ W, W = w.alloc (.cells zb32 5) := ⟨_, rfl⟩
  have o0 : W.ownsRow w.heap.size 5 1 (.slice (some ⟨w.heap.size, 0, none⟩) 32 32) 32 (U8 (List.replicate 32 0)) := by rw [hW]; exact World.ownsRow_lit (base := w.heap.size) (e := 5) (size := 1) w zb32 32 (Nat.le_refl _) (by unfold maxLen; omega) rfl
  have b0 : Below w.heap.size w W := by rw [hW]; exact (Below.refl _ _).alloc (Nat.le_refl _) _
  have fz := o0.frozenAt 0
  have o1 := own_at o0 0 (.int .u8 N)
  have b1 := b0.setCell (p := ⟨w.heap.size, 0, none⟩) (Nat.le_refl _) (.int .u8 N)
  obtain ⟨x, hx⟩ : ∃ x : Int, W.cell? ⟨w.heap.size, 0, none⟩ = some (.int .u8 x) := ⟨_, own_cell (K := .u8) o0 0 (by simp)⟩
  go_enter Tryz.func33, Tryz.ntmps33
  go_upto_region 2 with fail
  rw [← hW]
  clear hW o0 b0
  go_upto_region 3 with fail
  obtain ⟨W1, h2⟩ : ∃ Z, Z = W.setCell ⟨w.heap.size, 0, none⟩ (.int .u8 N) := ⟨_, rfl⟩
  rw [← h2] at o1 b1 ⊢
  clear h2 fz hx
  have fz := o1.frozenAt 31
  have o2 := own_at o1 31 (.int .u8 (7 * N))
  have b2 := b1.setCell (p := ⟨w.heap.size, 31, none⟩) (Nat.le_refl _) (.int .u8 (7 * N))
  obtain ⟨x, hx⟩ : ∃ x : Int, W1.cell? ⟨w.heap.size, 31, none⟩ = some (.int .u8 x) := ⟨_, own_cell (l := (List.replicate 32 0).set 0 N) (K := .u8) (by simpa only [U8, List.map_set] using o1) 31 (by simp)⟩
  go_wp2
  go_ret
  refine ⟨_, ((List.replicate 32 0).set 0 N).set 31 (7 * N), rfl, bs_of_own (by simpa only [U8, List.map_set] using o2) ?_, b2⟩
  intro y hy
  rcases List.mem_or_eq_of_mem_set hy with h | rfl
  · rcases List.mem_or_eq_of_mem_set h with h | rfl
    · have := List.eq_of_mem_replicate h; omega
    · omega
  · omega

set_option maxHeartbeats 1000000 in
theorem drawClamp (a : Option Addr) (n c : Nat) (xs : List Int) (w : World) (h : Bs w a n c xs) (hm : n ≤ 9223372036854775807) :
    Calls Tryz.prog 32 #[.slice a n c] w fun e w' => ∃ (v : Value) (l : List Int), e = .returned v ∧ l.length ≤ 33 ∧ (∀ x ∈ l, 0 ≤ x ∧ x < 256) ∧ w'.ownsRow w.heap.size 5 1 v l.length (U8 l) ∧ Below w.heap.size w w' := by
  go_enter Tryz.func32, Tryz.ntmps32
  go_wp2_with fail
  refine (curNew a n c xs _ h hm).mono ?_
  rintro e w1 ⟨rfl, hc1, hd1, hs1, hb1⟩
  have hp0 := cur_lt hc1
  clear hs1
  go_wp2_with fail
  refine (curOnce w.heap.size a n c xs 6 _ hc1 hd1 (by omega)).mono ?_
  rintro e w3 ⟨q, rfl, c3, g3⟩
  have d3 := hd1.grown g3
  have s3 := g3.size
  go_upto_if 10 with fail
  go_cut [4] from 11 (fun s4 wc => ∃ M : Nat, M ≤ 33 ∧ s4 = .int .i64 (M : Int) ∧ Cur wc w.heap.size a n c ∧ w1.grownBy wc (some w.heap.size))
  case first =>
    cases q with
    | false =>
      go_wp2
      go_meet
      case rel => exact ⟨32, by omega, rfl, c3, g3⟩
    | true =>
      go_wp2_with fail
      have hgA := grown_alloc w3 (.cells (([0, 31, 33] : List Int).map (Value.int .i64)).toArray 3) none
      have hcA := cur_keep c3 hgA (by simp)
      have hdA := d3.grown (grown_alloc w3 (.cells (([0, 31, 33] : List Int).map (Value.int .i64)).toArray 3) (some w.heap.size))
      have hcell := cells_arr w3 [0, 31, 33] 3
      refine (curPick w.heap.size a n c xs w3.heap.size 3 [0, 31, 33] _ hcA hdA rfl (by omega) (by omega) (by omega) (fun j hj => hcell j hj)).mono ?_
      rintro e w4 ⟨x, rfl, hx, c4, g4⟩
      have hb : 0 ≤ x ∧ x ≤ 33 := by
        simp only [List.mem_cons, List.not_mem_nil, or_false] at hx
        omega
      have g5 := grown_trans (grown_into g3 hgA (by intro k hk; cases hk)) g4
      obtain ⟨K, rfl⟩ := Int.eq_ofNat_of_zero_le hb.1
      clear hgA hcA hdA hcell hx g4 g3 c3 d3
      go_wp2
      go_meet
      case rel => exact ⟨K, by omega, rfl, c4, g5⟩
  case rest =>
    obtain ⟨M, hM, rfl, c2, g2⟩ := hcut
    have A0 : Msg w1 wc w.heap.size a n c (.slice none 0 0) [] := ⟨(fun x hx => by cases hx), World.ownsRow_nil _ _ _ _, c2, g2⟩
    clear c2 g2
    go_wp2
    go_loopw [5, 6] (fun v i wr => ∃ (l : List Int), l.length ≤ M ∧ i = .int .i64 (l.length : Int) ∧ Msg w1 wr w.heap.size a n c v l) (fun _ i _ => M - (intOf i).toNat)
    case atStart => exact ⟨[], by simp, rfl, A0⟩
    case round =>
      obtain ⟨l, hlM, rfl, A⟩ := hrel
      clear A0
      by_cases hlt : l.length < M
      · have hcd := hd1.grown A.gr
        go_wp2_with fail
        refine (curByte w.heap.size a n c xs _ A.cur hcd).mono ?_
        rintro e w3 ⟨x, rfl, hx0, hx1, hc3, hg3⟩
        have hcv : IntKind.u8.wrap x = x := by simp [IntKind.wrap, IntKind.signed, IntKind.bits]; omega
        have ow := A.own1 hp0 hg3
        have hs2 := (grown_trans A.gr hg3).size
        go_wp2_with (at_builtin; refine wpl_append_bs rfl _ _ rfl w1.heap.size _ l.length l rfl (some ⟨w3.heap.size, 0, none⟩) 1 1 [x] rfl (ow.alloc _) (Bs.one _ _ hx0 (by omega)) ?_ ?_ ?_)
        · omega
        · first | omega | (simp; omega)
        intro v' w4 h1 h2 _
        have A2 := A.step hp0 hg3 hc3 ⟨hx0, hx1⟩ _ (by simpa [U8] using h1) h2
        clear h1 h2 ow hc3 hg3 A hcd
        go_wp2
        go_roundw
        case rel => exact ⟨l ++ [x], by simp; omega, by simp, A2⟩
        case measure => simp [intOf]; omega
      · go_wp2
        go_ret
        exact ⟨_, l, rfl, by omega, A.byt, own_base A.own (by omega), hb1.grown A.gr (by omega) (fun k hk => by have := Option.some.inj hk; omega)⟩
end Go.Proofs.YtihoaakbkffejaaGreatDoor
namespace Go.Proofs.YtihoaakbkffejaaGreatDoor
open Go.RowKit
set_option maxRecDepth 100000

theorem made_U8 (n : Nat) : (madeCells (Value.int .u8 0).cells (n * 1)).toList = U8 (List.replicate n 0) := by
  rw [show U8 (List.replicate n 0) = List.replicate n (Value.int .u8 0) by simp, List.eq_replicate_iff]
  refine ⟨by simp [madeCells, Value.cells], fun b hb => ?_⟩
  simp only [madeCells, Value.cells, Array.toList_map, List.mem_map] at hb
  obtain ⟨i, _, rfl⟩ := hb
  simp [Nat.mod_one]
/-- 'make([]byte, n)'. -/
theorem makeB (n : Nat) (h : n ≤ 1000000) (Z : World) : (Instr.makeSlice 22 (.int .i64 (n : Int)) (.int .i64 (n : Int))).run Tryz.prog Z = .ok (.slice (some ⟨Z.heap.size, 0, none⟩) n n) (Z.alloc (.cells (madeCells (Value.int .u8 0).cells (n * 1)) 5)) := by
  obtain ⟨i0, hi, hz0, hz1, hz2⟩ := info_parts Tryz.info5
  have := run_makeSlice (P := Tryz.prog) Z 22 5 i0 (.int .u8 0) Tryz.underlying22 hi hz0 .i64 .i64 n n (by omega) (by omega) (by rw [hz1]; omega) (by rw [hz2]; omega) (by omega)
  rw [hz1, Int.toNat_natCast] at this
  exact this
set_option maxHeartbeats 2000000 in
theorem drawSign (a : Option Addr) (n c : Nat) (xs : List Int) (w : World) (h : Bs w a n c xs) (hm : n ≤ 9223372036854775807) :
    Calls Tryz.prog 7 #[.slice a n c] w fun e w' => ∃ a1 n1 c1 l1 a2 n2 c2 l2, e = .returned (.tuple #[.slice a1 n1 c1, .slice a2 n2 c2]) ∧ Bs w' a1 n1 c1 l1 ∧ n1 ≤ 33 ∧ Bs w' a2 n2 c2 l2 ∧ n2 ≤ 2001 ∧ Below w.heap.size w w' := by
  obtain ⟨i0, hi, hz0, hz1, hz2⟩ := info_parts Tryz.info5
  go_enter Tryz.func7, Tryz.ntmps7
  go_wp2_with fail
  refine (curNew a n c xs _ h hm).mono ?_
  rintro e w1 ⟨rfl, hc1, hd1, hs1, hb1⟩
  have hp0 := cur_lt hc1
  clear hs1
  go_wp2_with fail
  refine (curMsg w.heap.size a n c xs _ hc1 hd1).mono ?_
  rintro e w2 ⟨v, l, rfl, hl, A⟩
  have B2 : Below w.heap.size w w2 := hb1.grown A.gr (by omega) (fun k hk => by have := Option.some.inj hk; omega)
  have c2 := A.cur
  have s2 := A.gr.size
  have d2 := hd1.grown A.gr
  obtain ⟨b, d, rfl, hB⟩ : ∃ b d, v = .slice b l.length d ∧ w2.ownsRow w1.heap.size 5 1 (.slice b l.length d) l.length (U8 l) := by
    obtain ⟨b, d, rfl, _, _⟩ := Bs.own A.own A.byt
    exact ⟨b, d, rfl, A.own⟩
  have HB : Hid _ := A.byt
  clear A hc1 hd1 hb1
  go_wp2_with fail
  refine (curOnce w.heap.size a n c xs 40 _ c2 d2 (by omega)).mono ?_
  rintro e w3 ⟨q, rfl, c3, g3⟩
  have d3 := d2.grown g3
  have B3 : Below w.heap.size w w3 := B2.grown g3 B2.size (fun k hk => by have := Option.some.inj hk; omega)
  have o3 := hB.kept g3 (by
    cases hv : (Value.slice b l.length d).ownBlock with
    | none => exact .inl rfl
    | some k => exact .inr (fun e => by have := (hB.lt k hv).1; simp at e; omega))
  clear c2 d2 B2 hB
  have s3 := g3.size
  clear g3
  go_upto_if 11 with fail
  go_cut [5] from 12 (fun s5 wc => ∃ (b : Option Addr) (m d : Nat) (k : List Int), s5 = .slice b m d ∧ m ≤ 2001 ∧ wc.ownsRow w1.heap.size 5 1 (.slice b m d) m (U8 k) ∧ Hid (∀ x ∈ k, 0 ≤ x ∧ x < 256) ∧ Cur wc w.heap.size a n c ∧ Coded wc w.heap.size a n c xs ∧ Below w.heap.size w wc)
  case first =>
    cases q with
    | false =>
      go_wp2
      go_meet
      case rel => exact ⟨b, _, d, l, rfl, by omega, o3, HB, c3, d3, B3⟩
    | true =>
      clear o3
      go_wp2_with fail
      refine (curBelow w.heap.size a n c xs _ _ c3 d3 (by omega)).mono ?_
      rintro e w4 ⟨k, rfl, hk0, hk1, _, c4, g4⟩
      have hk2 := hk1 (by omega)
      have d4 := d3.grown g4
      have B4 : Below w.heap.size w w4 := B3.grown g4 B3.size (fun k hk => by have := Option.some.inj hk; omega)
      have s4 := g4.size
      obtain ⟨K, rfl⟩ := Int.eq_ofNat_of_zero_le hk0
      clear c3 d3 B3 g4 hk1
      have hmk : ∀ Z : World, (Instr.makeSlice 22 (.int .i64 (2000 + (K : Int))) (.int .i64 (2000 + (K : Int)))).run Tryz.prog Z = .ok (.slice (some ⟨Z.heap.size, 0, none⟩) (2000 + K) (2000 + K)) (Z.alloc (.cells (madeCells #[Value.int .u8 0] (2000 + K)) 5)) := by
        intro Z; have := makeB (2000 + K) (by omega) Z; rw [Int.natCast_add, Nat.mul_one] at this; exact this
      obtain ⟨w5, e5⟩ : ∃ Z, Z = w4.alloc (.cells (madeCells #[Value.int .u8 0] (2000 + K)) 5) := ⟨_, rfl⟩
      have g5 : w4.grownBy w5 none := by rw [e5]; exact grown_alloc _ _ _
      have o5 : w5.ownsRow w1.heap.size 5 1 (.slice (some ⟨w4.heap.size, 0, none⟩) (2000 + K) (2000 + K)) (2000 + K) (U8 (List.replicate (2000 + K) 0)) := by
        rw [e5, ← made_U8, Nat.mul_one]; exact World.ownsRow_lit w4 _ (2000 + K) (by omega) (by unfold maxLen; omega) (by rw [Nat.mul_one]; exact size_madeCells _ _)
      have c5 := cur_keep c4 g5 (by simp)
      have B5 : Below w.heap.size w w5 := B4.grown g5 B4.size (fun k hk => by cases hk)
      have d5 := coded_of h hm B5
      have HR : Hid _ := o5
      clear c4 d4 B4 o5 g5
      go_wp2
      rw [← e5]
      clear e5 hmk
      go_meet
      case rel =>
        refine ⟨_, _, _, _, rfl, by omega, HR.out, ?_, c5, d5, B5⟩
        intro x hx
        have := List.eq_of_mem_replicate hx; omega
  case rest =>
    clear o3 c3 d3 B3
    obtain ⟨b, m, d, k, rfl, hmk, o3, HK, c3, d3, B3⟩ := hcut
    go_wp2_with fail
    refine (curOnce w.heap.size a n c xs 9 _ c3 d3 (by omega)).mono ?_
    rintro e w4 ⟨q2, rfl, c4, g4⟩
    have d4 := d3.grown g4
    have B4 : Below w.heap.size w w4 := B3.grown g4 B3.size (fun k hk => by have := Option.some.inj hk; omega)
    have o4 := o3.kept g4 (by
      cases hv : (Value.slice b m d).ownBlock with
      | none => exact .inl rfl
      | some k => exact .inr (fun e => by have := (o3.lt k hv).1; simp at e; omega))
    clear c3 d3 B3 o3 g4
    cases q2 with
    | true =>
      go_wp2_with fail
      refine (drawClamp a n c xs _ (h.below B4) hm).mono ?_
      rintro e w5 ⟨v5, l5, rfl, hl5, hy5, o5, b5⟩
      have B5 := B4.trans (b5.mono B4.size)
      have HM : Hid (Bs w5 b m d k) := (bs_of_own o4 HK.out).below b5
      obtain ⟨a5, c5, rfl, _, i5⟩ := Bs.own o5 hy5
      have HI : Hid (Bs w5 a5 l5.length c5 l5) := i5
      clear o4 c4 d4 B4 o5 i5 b5 hy5
      go_wp2
      go_ret2
      exact ⟨_, _, _, _, _, _, _, _, rfl, HI.out, hl5, HM.out, hmk, B5⟩
    | false =>
      go_wp2_with fail
      refine (curBelow w.heap.size a n c xs _ _ c4 d4 (by omega)).mono ?_
      rintro e w5 ⟨x, rfl, hx0, hx1, _, c5, g5⟩
      have hx2 := hx1 (by omega)
      have B5 : Below w.heap.size w w5 := B4.grown g5 B4.size (fun k hk => by have := Option.some.inj hk; omega)
      have o5 := o4.kept g5 (by
        cases hv : (Value.slice b m d).ownBlock with
        | none => exact .inl rfl
        | some k => exact .inr (fun e => by have := (o4.lt k hv).1; simp at e; omega))
      clear c4 d4 B4 o4 g5 hx1 c5
      go_wp2_with fail
      refine (specSeed x _ hx0 (by omega)).mono ?_
      rintro e w6 ⟨g6, l6, rfl, i6, b6⟩
      have B6 := B5.trans (b6.mono B5.size)
      have HM : Hid (Bs w6 b m d k) := (bs_of_own o5 HK.out).below b6
      have HI : Hid (Bs w6 (some ⟨g6, 0, none⟩) 32 32 l6) := i6
      clear o5 B5 i6 b6
      go_wp2
      go_ret2
      exact ⟨_, _, _, _, _, _, _, _, rfl, HI.out, by omega, HM.out, hmk, B6⟩
end Go.Proofs.YtihoaakbkffejaaGreatDoor
namespace Go.Proofs.YtihoaakbkffejaaGreatDoor
open Go.RowKit Go.Extern.Stop Go.Stop Go.Extern
set_option maxRecDepth 100000

theorem e_isTypeOf (v : Value) (w : World) : (Extern.ReflectliteType.typeOf #[.iface 202 v]).run Tryz.prog w = .ok (.iface 172 (.agg #[.pointer (some ⟨10, 202, none⟩)])) w := by kernel_rfl
/-- What stands for the library's Comparable. -/
def cmpE : Array Value → Sem Value := Extern.ReflectliteType.method fun t => do Go.Extern.Rtype.noPackHeld "Comparable" t; pure (.bool (← typeInfo t).comparable)
theorem e_isComparable (w : World) : (cmpE #[.agg #[.pointer (some ⟨10, 202, none⟩)]]).run Tryz.prog w = .ok (.bool true) w := by kernel_rfl
theorem e_mComp (v : Value) (w : World) : (Go.method 339 172 v "Comparable").run Tryz.prog w = .ok (176, v) w := by kernel_rfl
theorem e_mUnw (v : Value) (w : World) : (Go.method 339 139 v "Unwrap").run Tryz.prog w = .ok (172, v) w := by kernel_rfl
theorem e_isComp : (Tryz.prog.info? 202).map (·.comparable) = some true := by kernel_rfl
theorem e_isSize : (Tryz.prog.info? 227).map (·.size) = some 1 := by kernel_rfl
theorem e_noIsW (v : Value) (xT : TypeId) (w : World) : (Instr.typeAssert (.iface 139 v) xT 174 true).run Tryz.prog w = .ok (.tuple #[.nilIface, .bool false]) w := run_typeAssert_lacksB Tryz.underlying174 (by kernel_rfl) (by kernel_rfl) v xT w
theorem e_hasUnwrapW (v : Value) (xT : TypeId) (w : World) : (Instr.typeAssert (.iface 139 v) xT 177 true).run Tryz.prog w = .ok (.tuple #[.iface 139 v, .bool true]) w := run_typeAssert_hasB Tryz.underlying177 (by kernel_rfl) v xT w

/-- errors.Is of none. -/
theorem is_nil (b : Addr) (w : World) :
    Calls Tryz.prog 45 #[.nilIface, .iface 202 (.pointer (some b))] w fun e w' => e = .returned (.bool false) ∧ w' = w := by
  have hn := run_eql_iface_nil_left (P := Tryz.prog) w 202 (.pointer (some b)) Tryz.underlying76
  go_enter Tryz.func45, Tryz.ntmps45
  go_wp2
  go_ret
  exact ⟨rfl, rfl⟩

theorem unwrapC (b : Addr) (s : Value) (w : World) (hE2 : (w.alloc (.cells #[s] 139)).cell? ⟨2, 0, none⟩ = some (.iface 202 (.pointer (some b)))) :
    Calls Tryz.prog 172 #[.agg #[s]] w fun e w' => e = .returned (.iface 202 (.pointer (some b))) ∧ w' = w.alloc (.cells #[s] 139) := by
  go_enter Tryz.func172, Tryz.ntmps172
  go_wp2
  go_ret
  exact ⟨rfl, rfl⟩

set_option maxHeartbeats 2000000 in
theorem is_fault (b : Addr) (s : Value) (w : World) (hg : 2 < w.heap.size) (hE : w.cell? ⟨2, 0, none⟩ = some (.iface 202 (.pointer (some b)))) :
    Calls Tryz.prog 45 #[.iface 139 (.agg #[s]), .iface 202 (.pointer (some b))] w fun e w' => e = .returned (.bool true) ∧ Below w.heap.size w w' := by
  obtain ⟨i, hi, hcmp⟩ := Option.map_eq_some_iff.1 e_isComp
  obtain ⟨j, hj, hjs⟩ := Option.map_eq_some_iff.1 e_isSize
  have h8 := @run_callFunc_extern Tryz.prog 86 _ Extern.ReflectliteType.typeOf Tryz.func86 (by kernel_rfl) (by kernel_rfl) (by kernel_rfl) (by kernel_rfl)
  have h32 := @run_callFunc_extern Tryz.prog 176 _ cmpE Tryz.func176 (by kernel_rfl) (by kernel_rfl) (by kernel_rfl) (by kernel_rfl)
  have mR := e_mComp
  have mU := e_mUnw
  have tT := e_isTypeOf
  have cT := e_isComparable
  have nW := e_noIsW
  have uW := e_hasUnwrapW
  have hty := run_eql_iface_types (P := Tryz.prog) 139 202 (.agg #[s]) (.pointer (some b)) Tryz.underlying76 (by decide) w
  obtain ⟨W, hW⟩ : ∃ W, W = w.alloc (.cells #[s] 139) := ⟨_, rfl⟩
  have bW : Below w.heap.size w W := by rw [hW]; exact (Below.refl _ _).alloc (Nat.le_refl _) _
  have hE2 : (w.alloc (.cells #[s] 139)).cell? ⟨2, 0, none⟩ = some (.iface 202 (.pointer (some b))) := by rw [← hW]; exact (bW.cell (p := ⟨2, 0, none⟩) hg).trans hE
  have heq := run_eql_iface_ptr_same (P := Tryz.prog) (w.alloc (.cells #[s] 139)) b Tryz.underlying76 Tryz.underlying202 hi hcmp hj
  rw [hW] at bW
  clear hW W
  go_enter Tryz.func45, Tryz.ntmps45
  go_wp2
  refine wp_loop_rounds 2 ?_
  rw [rounds_succ]
  go_wp2_with (go_at_call 172; refine (unwrapC b s w hE2).mono ?_; rintro e z ⟨rfl, rfl⟩)
  rw [rounds_succ]
  go_wp2
  go_ret
  exact ⟨rfl, bW⟩
end Go.Proofs.YtihoaakbkffejaaGreatDoor
namespace Go.Proofs.YtihoaakbkffejaaGreatDoor
open Go.RowKit
set_option maxRecDepth 100000

set_option maxHeartbeats 8000000 in
theorem implVerify' (a : Option Addr) (n c : Nat) (ps : List Int) (b : Option Addr) (m d : Nat) (ms : List Int) (a' : Option Addr) (k c' : Nat) (ss : List Int) (w : World) (hp : Bs w a n c ps) (hm : Bs w b m d ms) (hs : Bs w a' k c' ss) (be : Addr) (hG : VarsV w be) :
    Calls Tryz.prog 12 #[.slice a n c, .slice b m d, .slice a' k c'] w fun e w' => e = .returned (.bool (vfy ps ms ss)) ∧ Below w.heap.size w w' := by
  obtain ⟨r, hr⟩ : ∃ r, r = vfy ps ms ss := ⟨_, rfl⟩
  have HF : Hid (∀ Z, Below w.heap.size w Z → Calls Tryz.prog 46 #[.slice a n c, .slice b m d, .slice a' k c'] Z fun e w' => (r = true ∧ e = .returned .nilIface ∨ r = false ∧ ∃ s, e = .returned (.iface 139 (.agg #[s]))) ∧ Below Z.heap.size Z w') := by
    unfold Hid; intro Z hZ; rw [hr]; exact implFault a n c ps b m d ms a' k c' ss Z (hp.below hZ) (hm.below hZ) (hs.below hZ) be (hG.kept hZ)
  rw [← hr]
  clear hr hp hm hs
  have HG : Hid (∀ Z, Below w.heap.size w Z → VarsV Z be) := by unfold Hid; intro Z hZ; exact hG.kept hZ
  clear hG
  go_enter Tryz.func12, Tryz.ntmps12
  go_upto_region 1 with fail
  try simp only [Act.put]
  refine tame [kc 7 (.slice a n c), kc 8 (.slice b m d), kc 9 (.slice a' k c'), kv 10 (fun _ _ _ v => r = true ∧ v = .nilIface ∨ r = false ∧ ∃ s, v = .iface 139 (.agg #[s])), kc 11 (.iface 202 (.pointer (some be))), kc 12 (.bool (!r)), kc 13 (.bool r), kc 6 (.bool r)] 8 (by kernel_rfl) (by kernel_rfl) (by kernel_rfl)
    (by repeat' first | exact trivial | apply kc_keeps | (intro _ _ _ _ _ h _ _; exact h) | constructor) 0 (by kernel_rfl) (fun vv ll hh y f => ?_) (fun vv ll hh y f F ivh aph => ?_)
  · have hE := (HG.out y f).E
    refine ⟨tp (by kernel_rfl), tp (by kernel_rfl), tp (by kernel_rfl), tr (fun _ => (HF.out y f).mono ?_) (by kernel_rfl), tp ?_, tr (f := 45) (args := #[vv 3, .iface 202 (.pointer (some be))]) (fun x => ?_) (by kernel_rfl), tp ?_, tp (by kernel_rfl), trivial⟩
    · rintro e z ⟨h | h, hb⟩
      · exact ⟨_, h.2, _, rfl, hb, .inl ⟨h.1, rfl⟩⟩
      · obtain ⟨h1, s, h2⟩ := h
        exact ⟨_, h2, _, rfl, hb, .inr ⟨h1, s, rfl⟩⟩
    · simp only [fillK, putT, List.setIfInBounds_toArray, List.set_cons_zero, List.set_cons_succ]
      unfold execOp
      go_simp
    · have h3 := x { on := 3, ground := Ground.data } (by simp) rfl _ rfl
      rcases h3 with ⟨h1, h2⟩ | ⟨h1, s, h2⟩
      · simp only [] at h2
        rw [h2, h1]
        refine (is_nil be y).mono ?_
        rintro e z ⟨rfl, rfl⟩
        exact ⟨_, rfl, undef, rfl, Below.refl _ _, trivial⟩
      · simp only [] at h2
        rw [h2, h1]
        refine (is_fault be s y (HG.out y f).e0 hE).mono ?_
        rintro e z ⟨rfl, hb⟩
        exact ⟨_, rfl, undef, rfl, hb, trivial⟩
    · simp only [fillK, putT, List.setIfInBounds_toArray, List.set_cons_zero, List.set_cons_succ]
      unfold execOp
      go_simp
  · refine wpAny_done (by kernel_rfl) ?_ _
    simp only [fillK, putT, List.setIfInBounds_toArray, List.set_cons_zero, List.set_cons_succ]
    go_wp2
    go_ret
    exact ⟨rfl, f⟩
end Go.Proofs.YtihoaakbkffejaaGreatDoor
namespace Go.Proofs.YtihoaakbkffejaaGreatDoor
open Go.RowKit
set_option maxRecDepth 100000

set_option maxHeartbeats 2000000 in
theorem implScMul (a : Option Addr) (n c : Nat) (xs : List Int) (b : Option Addr) (m d : Nat) (ys : List Int) (w : World) (hx : Is w a n c xs) (hy : Is w b m d ys) (hV : Vr w 6 (I64 OL)) :
    Calls Tryz.prog 37 #[.agg #[.slice a n c], .agg #[.slice b m d]] w fun e w' => ∃ v, e = .returned (.tuple #[v, .bool (scOk xs && scOk ys)]) ∧ FeT 65 w w' v (sc2 (fun x y => x * y) xs ys) ∧ Below w.heap.size w w' := by
  obtain ⟨W, hW⟩ : ∃ W, W = ((w.alloc (.cells #[.slice a n c] 41)).alloc (.cells #[.slice b m d] 41)).alloc (.cells #[.slice none 0 0] 41) := ⟨_, rfl⟩
  have EE : S3r w W (.slice a n c) (.slice b m d) := by rw [hW]; exact S3r.new _ _ hV
  have HO := implMus a n c xs b m d ys W (hx.below EE.fr) (hy.below EE.fr) EE.vr
  have hSl := scL_len xs
  have hTl := scL_len ys
  obtain ⟨o, ho⟩ : ∃ o, o = (scOk xs && scOk ys) := ⟨_, rfl⟩
  obtain ⟨Q, hQ⟩ : ∃ Q, Q = sc2 (fun x y => x * y) xs ys := ⟨_, rfl⟩
  obtain ⟨R, hR⟩ : ∃ R, R = redO (val xs * val ys) := ⟨_, rfl⟩
  have hRl : R.length = 16 := by rw [hR]; exact redO_len _
  have HQ0 : Hid (o = false → Q = []) := by unfold Hid; intro h; rw [hQ]; unfold sc2; rw [← ho, h]; rfl
  have HQ1 : Hid (o = true → Q = R) := by unfold Hid; intro h; rw [hQ, hR]; unfold sc2; rw [← ho, h]; rfl
  have HF : Hid (o = true → ∀ Z, Vr Z 6 (I64 OL) → Calls Tryz.prog 81 #[.agg (I64 (scL xs)).toArray, .agg (I64 (scL ys)).toArray] Z fun e w' => e = .returned (.agg (I64 R).toArray) ∧ Below Z.heap.size Z w') := by
    unfold Hid; intro h Z hZ
    rw [ho, Bool.and_eq_true] at h
    have e1 : scL xs = xs := by unfold scL; rw [if_pos h.1]
    have e2 : scL ys = ys := by unfold scL; rw [if_pos h.2]
    rw [e1, e2, hR]
    exact implMuProd xs ys Z h.1 h.2 hZ
  obtain ⟨S, hS⟩ : ∃ S, S = scL xs := ⟨_, rfl⟩
  obtain ⟨T, hT⟩ : ∃ T, T = scL ys := ⟨_, rfl⟩
  rw [← hS] at HO hSl HF
  rw [← hT] at HO hTl HF
  rw [← ho] at HO ⊢
  rw [← hQ]
  have HO' : Hid (Calls Tryz.prog 80 #[.agg #[.slice a n c], .agg #[.slice b m d]] W fun e w' => e = .returned (.tuple #[.agg (I64 S).toArray, .agg (I64 T).toArray, .bool o]) ∧ Below W.heap.size W w') := HO
  have his : (Tryz.prog.info? 92).map (·.size) = some (I64 S).toArray.size := by simpa [hSl] using infoM
  have hit : (Tryz.prog.info? 92).map (·.size) = some (I64 T).toArray.size := by simpa [hTl] using infoM
  clear HO hS hT ho hQ hR hx hy hV
  go_enter Tryz.func37, Tryz.ntmps37
  go_wp2_with fail
  rw [← hW]
  refine HO'.out.mono ?_
  rintro e w1 ⟨rfl, hb1⟩
  replace EE := EE.go hb1
  obtain ⟨bV, p1, p2, q1, q2⟩ := laid_mu2 w1 S T
  have hlt1 := EE.pr.lt
  replace EE := EE.go bV
  clear hW hb1 HO' bV
  obtain ⟨V, hVV⟩ : ∃ V, V = (((w1.alloc (.cells #[.int .i64 0, .int .i64 0, .int .i64 0, .int .i64 0, .int .i64 0, .int .i64 0, .int .i64 0, .int .i64 0, .int .i64 0, .int .i64 0, .int .i64 0, .int .i64 0, .int .i64 0, .int .i64 0, .int .i64 0, .int .i64 0] 92)).alloc (.cells #[.int .i64 0, .int .i64 0, .int .i64 0, .int .i64 0, .int .i64 0, .int .i64 0, .int .i64 0, .int .i64 0, .int .i64 0, .int .i64 0, .int .i64 0, .int .i64 0, .int .i64 0, .int .i64 0, .int .i64 0, .int .i64 0] 92)).setRow w1.heap.size (I64 S).toArray).setRow (w1.heap.size + 1) (I64 T).toArray := ⟨_, rfl⟩
  rw [← hVV] at EE p1 p2
  have HV : Hid _ := hVV
  cases o with
  | false =>
    have HE : Hid (Q = []) := HQ0.out rfl
    have hcr : V.cell? ⟨w.heap.size + 2, 0, none⟩ = some (.slice none 0 0) := EE.pr.cell 0
    have hfr := EE.pr.frozen 0
    have HA : Hid _ := EE.pr.set 0 (.slice none 0 0)
    have HB : Hid _ := EE.fr.setCell (p := ⟨w.heap.size + 2, 0, none⟩) (by simp only; omega) (.slice none 0 0)
    rw [hVV] at hcr hfr
    clear EE HQ0 HQ1 HF p1 p2 hVV
    go_wp2_with (first
      | (refine wpList_store_row rfl 92 _ _ rfl w1.heap.size (I64 S).toArray rfl rfl 92 _ q1 his (by simp [hSl]) (by simp [Value.oneCell']) ?_)
      | (refine wpList_store_row rfl 92 _ _ rfl (w1.heap.size + 1) (I64 T).toArray rfl rfl 92 _ q2 hit (by simp [hTl]) (by simp [Value.oneCell']) ?_))
    rw [← HV.out]
    exact bodyPost_ret (results_row_tmp (v := .bool false) (cs := [.slice none 0 0]) rfl rfl rfl HA.out Tryz.underlying41 rfl infoSc) rfl ⟨_, rfl, HE.out ▸ feT_nil _ _ _, HB.out⟩
  | true =>
    have HE : Hid (Q = R) := HQ1.out rfl
    have HY : Hid (∀ Z, Vr Z 6 (I64 OL) → Calls Tryz.prog 81 #[.agg (I64 S).toArray, .agg (I64 T).toArray] Z fun e w' => e = .returned (.agg (I64 R).toArray) ∧ Below Z.heap.size Z w') := HF.out rfl
    rw [hVV] at p1 p2
    clear HQ0 HQ1 HF hVV
    go_wp2_with (first
      | (refine wpList_store_row rfl 92 _ _ rfl w1.heap.size (I64 S).toArray rfl rfl 92 _ q1 his (by simp [hSl]) (by simp [Value.oneCell']) ?_)
      | (refine wpList_store_row rfl 92 _ _ rfl (w1.heap.size + 1) (I64 T).toArray rfl rfl 92 _ q2 hit (by simp [hTl]) (by simp [Value.oneCell']) ?_)
      | (refine wpList_load_row rfl 92 _ rfl w1.heap.size rfl 92 (I64 S).toArray (0, 0) _ p1 Tryz.underlying92 rfl his ?_)
      | (refine wpList_load_row rfl 92 _ rfl (w1.heap.size + 1) rfl 92 (I64 T).toArray (0, 0) _ p2 Tryz.underlying92 rfl hit ?_))
    rw [← HV.out]
    clear HV p1 p2 q1 q2
    refine (HY.out _ EE.vr).mono ?_
    rintro e w2 ⟨rfl, hb2⟩
    replace EE := EE.go hb2
    clear hb2 HY
    go_wp2_with (refine wpList_part rfl _ rfl R hRl rfl ?_)
    refine (implList R _ hRl).mono ?_
    rintro e w4 ⟨a', c', rfl, ho, hb4⟩
    have hlt := EE.pr.lt
    have hsz := EE.fr.size
    replace EE := EE.go hb4
    have HOW : Hid _ := own_base (own_otherS ho ⟨w.heap.size + 2, 0, none⟩ (.slice a' 16 c') hlt) hsz
    have hcr : w4.cell? ⟨w.heap.size + 2, 0, none⟩ = some (.slice none 0 0) := EE.pr.cell 0
    have hfr := EE.pr.frozen 0
    have HA : Hid _ := EE.pr.set 0 (.slice a' 16 c')
    have HB : Hid _ := EE.fr.setCell (p := ⟨w.heap.size + 2, 0, none⟩) (by simp only; omega) (.slice a' 16 c')
    clear EE ho hb4 hsz hlt
    go_wp2
    exact bodyPost_ret (results_row_tmp (v := .bool true) (cs := [.slice a' 16 c']) rfl rfl rfl HA.out Tryz.underlying41 rfl infoSc) rfl ⟨_, rfl, HE.out ▸ feT_16 hRl HOW.out, HB.out⟩

end Go.Proofs.YtihoaakbkffejaaGreatDoor

/-
  What is proved here: the library's bytes.Repeat at one byte 255 and the counts 64 and 3072: a new row; its block may have room behind it.
-/
import Derived.Test.YtcnlpdpbkkjkoaaF9i
import Derived.Lib.MakeNoZero
import Derived.Laws.Externs
import Derived.Laws.CopyRow
import Derived.Shelf.Spec.SlicesInsert
namespace Go.Proofs.Ytcnlpdpbkkjkoaa
set_option maxRecDepth 100000
set_option maxHeartbeats 4000000
open Go.RowKit
set_option linter.unusedVariables false

/-- Bytes at the beginning of a block of the call's own, which may be longer. -/
structure OwnP (w : World) (lo g n : Nat) (xs : List Int) : Prop where
  lo : lo ≤ g
  len : xs.length = n
  blk : ∃ cur : Array Value, w.heap[g]? = some (.cells cur 5 (0, 0)) ∧ n ≤ cur.size ∧ cur.toList.take n = U8 xs
theorem OwnP.lt {w : World} {lo g n : Nat} {xs : List Int} (h : OwnP w lo g n xs) : g < w.heap.size := by
  obtain ⟨cur, hg, _⟩ := h.blk
  exact (Array.getElem?_eq_some_iff.1 hg).1
theorem OwnP.below {w w' : World} {lo g n : Nat} {xs : List Int} (h : OwnP w lo g n xs) (hb : Below w.heap.size w w') : OwnP w' lo g n xs := by
  obtain ⟨cur, hg, h1, h2⟩ := h.blk
  exact ⟨h.lo, h.len, cur, by rw [hb.block g h.lt]; exact hg, h1, h2⟩
theorem OwnP.cell {w : World} {lo g n : Nat} {xs : List Int} (h : OwnP w lo g n xs) (j : Nat) (hj : j < n) : w.cell? ⟨g, j, none⟩ = some (.int .u8 (xs.getD j 0)) := by
  obtain ⟨cur, hg, h1, h2⟩ := h.blk
  rw [cell_of_row w g j _ _ _ hg]
  have e : (cur.toList.take n)[j]? = (U8 xs)[j]? := by rw [h2]
  have hx : j < xs.length := by rw [h.len]; exact hj
  rw [List.getElem?_take_of_lt hj] at e
  simp only [Array.getElem?_toList] at e
  rw [e]
  simp [hx]
theorem OwnP.frozen {w : World} {lo g n : Nat} {xs : List Int} (h : OwnP w lo g n xs) (j : Nat) : w.frozen? ⟨g, j, none⟩ = false := by
  obtain ⟨cur, hg, _⟩ := h.blk
  exact frozen_of_row w g j _ _ hg
theorem OwnP.bs {w : World} {lo g n : Nat} {xs : List Int} (h : OwnP w lo g n xs) (hx : ∀ x ∈ xs, 0 ≤ x ∧ x < 256) : Bs w (some ⟨g, 0, none⟩) n n xs :=
  ⟨(fun h => by cases h), h.len, Nat.le_refl _, hx, .inr ⟨g, 0, rfl, h.lt, fun j hj => by simpa using h.cell j hj⟩⟩

theorem mul64 (n : Int) (h0 : 0 ≤ n) (h1 : n < 65536) (w : World) : Calls Try.prog 100 #[.int .u64 1, .int .u64 n] w fun e w' => e = .returned (.tuple #[.int .u64 0, .int .u64 n]) ∧ w' = w := by
  have e1 : bits .and .u64 1 4294967295 = 1 := by decide
  have e2 : bits .and .u64 n 4294967295 = n := by
    have := bits_and_u64_nat n.toNat 4294967295 (by omega) (by omega)
    rw [show ((n.toNat : Nat) : Int) = n by omega] at this
    rw [show (4294967295 : Int) = ((4294967295 : Nat) : Int) by rfl, this, show (4294967295 : Nat) = 2 ^ 32 - 1 by rfl, Nat.and_two_pow_sub_one_eq_mod]
    omega
  have e3 : bits .and .u64 0 4294967295 = 0 := by decide
  have d1 : n / 4294967296 = 0 := by omega
  have w1 : IntKind.u64.wrap n = n := by simp [IntKind.wrap, IntKind.signed, IntKind.bits]; omega
  have w0 : IntKind.u64.wrap 0 = 0 := by decide
  go_enter Try.func100, Try.ntmps100
  go_wp2
  go_ret2
  exact ⟨by simp, rfl⟩
theorem mulW (n : Int) (h0 : 0 ≤ n) (h1 : n < 65536) (w : World) : Calls Try.prog 93 #[.int .u64 1, .int .u64 n] w fun e w' => e = .returned (.tuple #[.int .u64 0, .int .u64 n]) ∧ w' = w := by
  go_enter Try.func93, Try.ntmps93
  go_wp2_with fail
  refine (mul64 n h0 h1 _).mono ?_
  rintro e w1 ⟨rfl, hw⟩
  rw [hw]
  go_wp2
  go_ret2
  exact ⟨rfl, rfl⟩

section
variable {P : Program} {ops : Array Oper} {Q : Exit → Act → World → Prop}
/-- A value that comes up alone, and what it does to memory. -/
theorem st_val {listed : Array Bool} {fuel i : Nat} {o : Oper} {a : Act} {w w' : World} {v : Value} (hr : Region.ready .any ops listed = [i]) (ho : ops[i]? = some o) (hg : o.guard = none) (hx : (execOp a.eval o).run P w = .ok (.value v) w')
    (h : wpAny P .any ops Q fuel (listed.setIfInBounds i true) (a.put o.dst v) w') : wpAny P .any ops Q (fuel + 1) listed a w := by
  refine ⟨fun h0 => absurd (hr.symm.trans h0) (by simp), fun j hj => ?_⟩
  rw [hr] at hj
  rcases List.mem_singleton.1 hj with rfl
  unfold wpOp
  simp only [ho]
  rw [if_pos (by simp [Region.wanted, hg])]
  refine .inl ?_
  unfold Oper.wp
  rw [hx]
  exact h
end
theorem rep_take {cur : List Value} {k q : Nat} {v : Value} (h : cur.take k = List.replicate k v) (hq : k + q ≤ cur.length) : (cur.take k ++ List.replicate q v ++ cur.drop (k + q)).take (k + q) = List.replicate (k + q) v := by
  have : (List.replicate k v ++ (List.replicate q v ++ cur.drop (k + q))) = List.replicate (k + q) v ++ cur.drop (k + q) := by
    rw [← List.append_assoc, List.replicate_append_replicate]
  rw [h, List.append_assoc, this, List.take_append_of_le_length (by simp), List.take_of_length_le (by simp)]

theorem repeat255 (b o c n : Nat) (w : World) (h : Bs w (some ⟨b, o, none⟩) 1 c [255]) (h1 : 1 ≤ n) (h2 : n ≤ 8192) :
    Calls Try.prog 72 #[.slice (some ⟨b, o, none⟩) 1 c, .int .i64 n] w fun e w' => ∃ g, e = .returned (.slice (some ⟨g, 0, none⟩) n n) ∧ OwnP w' w.heap.size g n (List.replicate n 255) ∧ Below w.heap.size w w' := by
  obtain ⟨cs, hrun, hle, hmax⟩ := Lib.run_makeNoZero (P := Try.prog) w #[3] 22 5 Try.underlying22 n (by omega)
  have hcall : (callFunc 94 #[.int .i64 (n : Int)]).run Try.prog w = .ok (.value (.slice (some ⟨w.heap.size, 0, none⟩) n cs.size)) (w.drew.drew.alloc (.cells cs 5)) := by
    rw [run_callFunc_extern Try.func94 (by kernel_rfl) (by kernel_rfl) (by kernel_rfl) (e := Extern.BytealgMakeNoZero.makeNoZero #[3] #[22]) (by kernel_rfl), hrun]
    rfl
  obtain ⟨_, _, _, _, h⟩ := h
  rcases h with h | ⟨b', o', eb, hlt, hc⟩
  · omega
  cases eb
  have hc0 := hc 0 (by omega)
  simp at hc0
  obtain ⟨V, hV⟩ : ∃ V, V = (w.alloc (.cells cs 5)).drew.drew := ⟨_, rfl⟩
  have bV : Below w.heap.size w V := by rw [hV]; exact ((Below.refl _ _).alloc (Nat.le_refl _) _).drew.drew
  have hg0 : V.heap[w.heap.size]? = some (.cells cs 5 (0, 0)) := by rw [hV]; exact heap_alloc_new w _
  have hcV : V.cell? ⟨b, o, none⟩ = some (.int .u8 255) := (bV.cell (p := ⟨b, o, none⟩) hlt).trans hc0
  have hi5 : (Try.prog.info? 5).map (·.size) = some 1 := by kernel_rfl
  have hcp := run_copy_row (P := Try.prog) V 22 22 3 5 w.heap.size 0 n n ⟨b, o, none⟩ 1 c cs 5 [.int .u8 255] Try.underlying22 hi5 hg0 (Nat.min_eq_left h1).symm
    (fun j v hj => by
      rcases j with _ | j
      · simp at hj; subst hj; simpa [Addr.add] using hcV
      · simp at hj) (by simp; omega) (by intro v hv; simp at hv; subst hv; rfl)
  obtain ⟨C0, hC0⟩ : ∃ C, C = (cs.toList.take 0 ++ [Value.int .u8 255] ++ cs.toList.drop (0 + [Value.int .u8 255].length)).toArray := ⟨_, rfl⟩
  rw [← hC0] at hcp
  have hC0s : C0.size = cs.size := by rw [hC0]; simp; omega
  have hC0t : C0.toList.take 1 = List.replicate 1 (Value.int .u8 255) := by rw [hC0]; simp
  obtain ⟨U, hU⟩ : ∃ U, U = V.setRow w.heap.size C0 := ⟨_, rfl⟩
  rw [← hU] at hcp
  have hgU : U.heap[w.heap.size]? = some (.cells C0 5 (0, 0)) := by rw [hU]; exact setRow_heap V _ _ _ _ _ hg0
  have bU : Below w.heap.size w U := by rw [hU]; exact setRow_below bV _ _ (Nat.le_refl _)
  have w3 : IntKind.i64.wrap (n : Int) = n := by rw [IntKind.wrap_i64]; omega
  have w4 : IntKind.u64.wrap (n : Int) = n := by simp [IntKind.wrap, IntKind.signed, IntKind.bits]; omega
  have n0 : ((n : Int) == 0) = false := by simp; omega
  have n1 : ¬ ((n : Int) < 0) := by omega
  have n2 : ¬ (9223372036854775807 < (n : Int)) := by omega
  have n3 : ¬ (8192 < (n : Int)) := by omega
  have g1 : goInt [Value.int .u8 255].length = .int .i64 1 := rfl
  rw [g1, hV] at hcp
  have HCA : Hid _ := hcall
  have HCP : Hid _ := hcp
  have HSZ : Hid (n ≤ C0.size) := by unfold Hid; omega
  clear hcall hcp hrun hmax hC0 hC0s hc hc0 hcV hg0 hU bV
  go_enter Try.func72, Try.ntmps72
  go_wp2_with fail
  refine (mulW n (by omega) (by omega) _).mono ?_
  rintro e w1 ⟨rfl, hw⟩
  rw [hw]
  clear hw
  have hcall := HCA.out
  have hsl : n ≤ cs.size := hle
  have hcp := HCP.out
  go_wp2
  clear hcall HCA HCP hV hsl hle hcp
  go_loopw [10] (fun i wr => ∃ k : Nat, 1 ≤ k ∧ k ≤ n ∧ i = .int .i64 k ∧ (∃ cur : Array Value, wr.heap[w.heap.size]? = some (.cells cur 5 (0, 0)) ∧ n ≤ cur.size ∧ cur.toList.take k = List.replicate k (Value.int .u8 255)) ∧ Below w.heap.size w wr) (fun i _ => n - (intOf i).toNat)
  case atStart => exact ⟨1, by omega, h1, rfl, ⟨C0, hgU, HSZ.out, hC0t⟩, bU⟩
  case round =>
    obtain ⟨k, hk1, hk, rfl, ⟨cur, hgk, hsz, htk⟩, bk⟩ := hrel
    clear hgU hC0t bU HSZ
    by_cases hlt : k < n
    · have hltI : (k : Int) < (n : Int) := by omega
      obtain ⟨q, hq⟩ : ∃ q, q = Nat.min k (n - k) := ⟨_, rfl⟩
      have hq1 : q ≤ n - k := by rw [hq]; exact Nat.min_le_right _ _
      have hq0 : 1 ≤ q := by rw [hq]; exact Nat.le_min.2 ⟨hk1, by omega⟩
      have hmn : min (k : Int) (n : Int) = (k : Int) := by omega
      have hkn : n ≠ k := by omega
      go_wp2
      try simp only [Act.put]
      refine tameL [kc 67 (.int .i64 (k : Int)), kc 68 (.slice (some ⟨w.heap.size, 0, none⟩) n n), kc 69 (.int .i64 (k : Int)), kc 70 (.slice (some ⟨w.heap.size, k, none⟩) (n - k) (n - k)), kc 71 (.slice (some ⟨w.heap.size, 0, none⟩) n n), kc 72 (.int .i64 (k : Int)), kc 73 (.slice (some ⟨w.heap.size, 0, none⟩) k n)] 7 (by kernel_rfl) (by kernel_rfl) [0] (by kernel_rfl) (by repeat' first | exact trivial | apply kc_keeps | constructor) (fun _ c a d v w h => by cases d <;> exact h) (fun V L i hi => by simp only [List.mem_cons, List.not_mem_nil, or_false] at hi; subst hi; exact ⟨_, _, _, rfl, rfl, .inl ⟨by kernel_rfl, fun _ => by kernel_rfl⟩⟩) 3 (by kernel_rfl) (fun vv ll hh yW bW => ?_) (fun vv ll hh yW bW F ivh aph => ?_)
      · refine ⟨og (tp (by kernel_rfl)) (by kernel_rfl), og (tp (by kernel_rfl)) (by kernel_rfl), og (tp (by kernel_rfl)) (by kernel_rfl), og (tp ?_) (by kernel_rfl), og (tp (by kernel_rfl)) (by kernel_rfl), og (tp (by kernel_rfl)) (by kernel_rfl), og (tp ?_) (by kernel_rfl), trivial⟩
        · simp only [fillK, putT, List.setIfInBounds_toArray, List.set_cons_zero, List.set_cons_succ]
          unfold execOp
          go_simp
        · simp only [fillK, putT, List.setIfInBounds_toArray, List.set_cons_zero, List.set_cons_succ]
          unfold execOp
          go_simp
      clear F ivh aph
      obtain ⟨y, hy⟩ : ∃ z, z = yW := ⟨_, rfl⟩
      rw [← hy] at bW ⊢
      clear hy
      have hgy : y.heap[w.heap.size]? = some (.cells cur 5 (0, 0)) := by rw [bW.block w.heap.size (Array.getElem?_eq_some_iff.1 hgk).1]; exact hgk
      have hcp := run_copy_row (P := Try.prog) y 22 22 3 5 w.heap.size k (n - k) (n - k) ⟨w.heap.size, 0, none⟩ k n cur 5 (List.replicate q (.int .u8 255)) Try.underlying22 hi5 hgy (by rw [List.length_replicate]; exact hq)
        (fun j v hj => by
          have hjq : j < q := by have := (List.getElem?_eq_some_iff.1 hj).1; simpa using this
          have hqk : q ≤ k := by rw [hq]; exact Nat.min_le_left _ _
          rw [Addr.add_lit, Nat.zero_add, cell_of_row y w.heap.size j _ _ _ hgy]
          have e : (cur.toList.take k)[j]? = (List.replicate k (Value.int .u8 255))[j]? := by rw [htk]
          rw [List.getElem?_take_of_lt (by omega)] at e
          simp only [Array.getElem?_toList] at e
          rw [e, List.getElem?_replicate_of_lt (by omega)]
          rw [List.getElem?_replicate_of_lt hjq] at hj
          exact hj) (by simp; omega) (by intro v hv; rw [List.mem_replicate] at hv; rw [hv.2]; rfl)
      rw [List.length_replicate, show goInt (q : Int) = .int .i64 (q : Int) by unfold goInt; rfl] at hcp
      obtain ⟨C1, hC1⟩ : ∃ C, C = (cur.toList.take k ++ List.replicate q (Value.int .u8 255) ++ cur.toList.drop (k + q)).toArray := ⟨_, rfl⟩
      rw [← hC1] at hcp
      have hC1s : n ≤ C1.size := by rw [hC1]; simp; omega
      have hC1t : C1.toList.take (k + q) = List.replicate (k + q) (Value.int .u8 255) := by rw [hC1]; exact rep_take htk (by simp; omega)
      have hgZ : (y.setRow w.heap.size C1).heap[w.heap.size]? = some (.cells C1 5 (0, 0)) := setRow_heap y _ _ _ _ _ hgy
      have bZ : Below w.heap.size w (y.setRow w.heap.size C1) := setRow_below (bk.trans (bW.mono bk.size)) _ _ (Nat.le_refl _)
      have hwq : IntKind.i64.wrap ((k : Int) + (q : Int)) = (k : Int) + (q : Int) := by rw [IntKind.wrap_i64]; omega
      have HCP : Hid _ := hcp
      clear hcp hC1 hgk hgy hq hmn
      refine st_val (i := 7) (o := { dst := some 74, op := Op.call { callee := Callee.builtin Builtin.copy, args := #[Operand.tmp 70, Operand.tmp 73], argTypes := #[22, 22] }, type := 3, pos := "bytes.go:672", after := #[{ on := 3, ground := Ground.data }, { on := 6, ground := Ground.data }], guard := none }) (by kernel_rfl) rfl rfl (v := .int .i64 (q : Int)) (w' := y.setRow w.heap.size C1) ?_ ?_
      · simp only [fillK, putT, List.setIfInBounds_toArray, List.set_cons_zero, List.set_cons_succ]
        unfold execOp
        simp only [resolve, invoke, builtin, Sem.run_bind, Sem.run_pure, Result.andThen_ok, List.map_toArray, List.map_cons, List.map_nil]
        exact congrArg (fun q => q.andThen fun a w' => Result.ok (Next.value a) w') HCP.out
      generalize y.setRow w.heap.size C1 = Z at hgZ bZ ⊢
      simp only [fillK, putT, List.setIfInBounds_toArray, List.set_cons_zero, List.set_cons_succ]
      try simp only [Act.put]
      refine st_val (i := 8) (o := { dst := some 75, op := Op.binOp BinOp.add 3 (Operand.tmp 67) (Operand.tmp 74) 3, type := 3, pos := "bytes.go:672", after := #[{ on := 0, ground := Ground.data }, { on := 7, ground := Ground.data }], guard := none }) (by kernel_rfl) rfl rfl (v := .int .i64 ((k : Int) + (q : Int))) (w' := Z) ?_ ?_
      · try simp only [List.setIfInBounds_toArray, List.set_cons_zero, List.set_cons_succ]
        unfold execOp
        go_simp
      refine st_val (i := 9) (o := { dst := some 10, op := Op.assign (Operand.tmp 75), type := 3, pos := "bytes.go:672", after := #[{ on := 8, ground := Ground.data }, { on := 7, ground := Ground.chain }, { on := 0, ground := Ground.phase }, { on := 1, ground := Ground.phase }, { on := 2, ground := Ground.phase }, { on := 3, ground := Ground.phase }, { on := 4, ground := Ground.phase }, { on := 5, ground := Ground.phase }, { on := 6, ground := Ground.phase }, { on := 7, ground := Ground.phase }, { on := 8, ground := Ground.phase }], guard := none }) (by kernel_rfl) rfl rfl (v := .int .i64 ((k : Int) + (q : Int))) (w' := Z) (by kernel_rfl) ?_
      refine wpAny_done (by kernel_rfl) ?_ _
      try simp only [Act.put]
      try simp only [List.setIfInBounds_toArray, List.set_cons_zero, List.set_cons_succ]
      go_wp2
      go_roundw
      case rel => exact ⟨k + q, by omega, by omega, by go_num, ⟨C1, hgZ, hC1s, hC1t⟩, bZ⟩
      case measure => simp [intOf]; omega
    · have hkn : k = n := by omega
      subst hkn
      have O : OwnP wr w.heap.size w.heap.size k (List.replicate k 255) := ⟨Nat.le_refl _, by simp, cur, hgk, hsz, by rw [htk]; simp⟩
      clear hgk htk
      go_wp2
      go_ret
      exact ⟨_, rfl, O, bk⟩
end Go.Proofs.Ytcnlpdpbkkjkoaa

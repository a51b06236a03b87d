/-
  What is proved here: the library's slices.Repeat at one record and a count up to three: a new row.
-/
import Derived.Test.YtjceajgefpinpaaC1d
import Derived.Test.YtjceajgefpinpaaC0s
import Derived.Laws.CopyRow
import Derived.Shelf.Spec.SlicesInsert
namespace Go.Proofs.Ytjceajgefpinpaa
set_option maxRecDepth 100000
set_option maxHeartbeats 4000000
open Go.RowKit
set_option linter.unusedVariables false

theorem run_copy_row4 {P : Program} (w : World) (dT sT ty elem : TypeId) (g o dLen dCap : Nat) (a : Addr) (sLen sCap m : Nat) (cur : Array Value) (t : TypeId) (cs : List Value)
    (hu : P.underlying dT = some (.slice elem)) (hs : (P.info? elem).map (·.size) = some 4)
    (hg : w.heap[g]? = some (.cells cur t (0, 0))) (hm : m = Nat.min sLen dLen) (hn : cs.length = m * 4)
    (hsrc : ∀ j v, cs[j]? = some v → w.cell? (a.add j) = some v) (hfit : o + cs.length ≤ cur.size) (h1 : ∀ v ∈ cs, v.oneCell' = true) :
    (Builtin.copy_ #[dT, sT] ty #[.slice (some ⟨g, o, none⟩) dLen dCap, .slice (some a) sLen sCap]).run P w =
      .ok (goInt m) (w.setRow g (cur.toList.take o ++ cs ++ cur.toList.drop (o + cs.length)).toArray) := by
  have hl := run_loadCells_list (P := P) w a cs hsrc
  have hst := run_storeCells_at P g o t cs 0 cur w hg (by simpa using hfit) h1
  cases hq : P.info? elem with
  | none => simp [hq] at hs
  | some i =>
    have hi : i.size = 4 := by simpa [hq] using hs
    rw [hn] at hl
    rw [hm] at hl ⊢
    simp [Builtin.copy_, run_underlying hu, Builtin.lenOf, Builtin.firstCells, sizeOf, typeInfo, hq, hi, hl, hst]

theorem FL_take : ∀ (xs : List Rc) (k : Nat), (FL xs).take (k * 4) = FL (xs.take k)
  | [], k => by simp [FL]
  | _ :: _, 0 => by simp [FL]
  | x :: t, k + 1 => by
    rw [show (k + 1) * 4 = k * 4 + 4 by omega]
    show _ :: _ :: _ :: _ :: (FL t).take (k * 4) = _ :: _ :: _ :: _ :: FL (t.take k)
    rw [FL_take t k]
theorem FL_drop : ∀ (xs : List Rc) (k : Nat), (FL xs).drop (k * 4) = FL (xs.drop k)
  | [], k => by simp [FL]
  | _ :: _, 0 => by simp
  | x :: t, k + 1 => by
    rw [show (k + 1) * 4 = k * 4 + 4 by omega]
    show (FL t).drop (k * 4) = FL (t.drop k)
    rw [FL_drop t k]
/-- k records of the one kind, the others blank. -/
abbrev rpL (n k : Nat) : List Rc := List.replicate k rTry ++ List.replicate (n - k) rz
theorem rpL_len {n k : Nat} (h : k ≤ n) : (rpL n k).length = n := by simp; omega
theorem rpL_copy {n k q : Nat} (h : k + q ≤ n) : (FL (rpL n k)).take (k * 4) ++ FL (List.replicate q rTry) ++ (FL (rpL n k)).drop (k * 4 + q * 4) = FL (rpL n (k + q)) := by
  rw [show k * 4 + q * 4 = (k + q) * 4 by omega, FL_take, FL_drop, ← FL_app, ← FL_app]
  congr 1
  have e1 : (rpL n k).take k = List.replicate k rTry := by
    unfold rpL
    rw [List.take_append_of_le_length (by simp), List.take_of_length_le (by simp)]
  have e2 : (rpL n k).drop (k + q) = List.replicate (n - (k + q)) rz := by
    unfold rpL
    rw [List.drop_append, List.drop_eq_nil_of_le (by simp)]
    simp
    omega
  rw [e1, e2, List.replicate_append_replicate]
theorem arr_row {W : World} {g n lo : Nat} {t : TypeId} {l : List Rc} (A : Arr W g t (FL l)) (hl : l.length = n) (hn : n ≤ 1048576) (hlo : lo ≤ g) : W.ownsRow lo t 4 (.slice (some ⟨g, 0, none⟩) n n) n (FL l) :=
  ⟨by rw [FL_len, hl], .inr ⟨g, n, (FL l).toArray, rfl, hlo, A, Nat.le_refl _, by unfold maxLen; omega, by simp [FL_len, hl], by simp; rw [List.take_of_length_le (by rw [FL_len, hl]; omega)]⟩⟩
theorem row_arr {W : World} {g n lo : Nat} {t : TypeId} {l : List Rc} (h : W.ownsRow lo t 4 (.slice (some ⟨g, 0, none⟩) n n) n (FL l)) : Arr W g t (FL l) := by
  rcases h.2 with ⟨h', _⟩ | ⟨g', cap', cur, h', _, hg, _, _, hs, ht⟩
  · simp at h'
  · simp only [Value.slice.injEq, Option.some.injEq, Addr.mk.injEq, and_true, true_and] at h'
    obtain ⟨rfl, rfl⟩ := h'
    rw [List.take_of_length_le (by rw [Array.length_toList, hs]; omega)] at ht
    unfold Arr
    rw [hg, ← ht]

theorem mul64 (n : Int) (h0 : 0 ≤ n) (h1 : n < 65536) (w : World) : Calls Try.prog 88 #[.int .u64 1, .int .u64 n] w fun e w' => e = .returned (.tuple #[.int .u64 0, .int .u64 n]) ∧ w' = w := by
  have e1 : bits .and .u64 1 4294967295 = 1 := by decide
  have e2 : bits .and .u64 n 4294967295 = n := by
    have := bits_and_u64_nat n.toNat 4294967295 (by omega) (by omega)
    rw [show ((n.toNat : Nat) : Int) = n by omega] at this
    rw [show (4294967295 : Int) = ((4294967295 : Nat) : Int) by rfl, this, show (4294967295 : Nat) = 2 ^ 32 - 1 by rfl, Nat.and_two_pow_sub_one_eq_mod]
    omega
  have e3 : bits .and .u64 0 4294967295 = 0 := by decide
  have d1 : n / 4294967296 = 0 := by omega
  have w1 : IntKind.u64.wrap n = n := by simp [IntKind.wrap, IntKind.signed, IntKind.bits]; omega
  have w0 : IntKind.u64.wrap 0 = 0 := by decide
  go_enter Try.func88, Try.ntmps88
  go_wp2
  go_ret2
  exact ⟨by simp, rfl⟩
theorem mulW (n : Int) (h0 : 0 ≤ n) (h1 : n < 65536) (w : World) : Calls Try.prog 78 #[.int .u64 1, .int .u64 n] w fun e w' => e = .returned (.tuple #[.int .u64 0, .int .u64 n]) ∧ w' = w := by
  go_enter Try.func78, Try.ntmps78
  go_wp2_with fail
  refine (mul64 n h0 h1 _).mono ?_
  rintro e w1 ⟨rfl, hw⟩
  rw [hw]
  go_wp2
  go_ret2
  exact ⟨rfl, rfl⟩
theorem rep_src {y : World} {b o k q : Nat} (h : ∀ i, i < k → Rat y b (o + i * 4) rTry) (hq : q ≤ k) (j : Nat) (v : Value) (hj : (FL (List.replicate q rTry))[j]? = some v) : y.cell? ((⟨b, o, none⟩ : Addr).add j) = some v := by
  rw [Addr.add_lit]
  refine rs_cells (n := q) (ys := List.replicate q rTry) (by simp) (fun i hi => ?_) j v hj
  rw [show rg (List.replicate q rTry) i = rTry by unfold rg; simp [hi]]
  exact h i (by omega)
theorem copy_try {y : World} {g b o k dn sl sc n m lo : Nat} (A : Arr y g 29 (FL (rpL n k))) (hs : ∀ i, i < sl → Rat y b (o + i * 4) rTry) (hm : m = Nat.min sl dn) (hf : k + m ≤ n) (dc : Nat) :
    (Builtin.copy_ #[24, 24] 3 #[.slice (some ⟨g, k * 4, none⟩) dn dc, .slice (some ⟨b, o, none⟩) sl sc]).run Try.prog y = .ok (.int .i64 (m : Int)) (y.setRow g (FL (rpL n (k + m))).toArray) := by
  have hi4 : (Try.prog.info? 29).map (·.size) = some 4 := by kernel_rfl
  have hq : m ≤ sl := by rw [hm]; exact Nat.min_le_left _ _
  have := run_copy_row4 (P := Try.prog) y 24 24 3 29 g (k * 4) dn dc ⟨b, o, none⟩ sl sc m (FL (rpL n k)).toArray 29 (FL (List.replicate m rTry)) Try.underlying24 hi4 A hm (by rw [FL_len]; simp)
    (rep_src hs hq) (by rw [FL_len]; simp [FL_len]; omega) (FL_one _)
  rw [this]
  have e : (FL (rpL n k)).take (k * 4) ++ FL (List.replicate m rTry) ++ (FL (rpL n k)).drop (k * 4 + (FL (List.replicate m rTry)).length) = FL (rpL n (k + m)) := by
    rw [FL_len, List.length_replicate]
    exact rpL_copy hf
  rw [e]
  rfl
theorem mk_first {w w1 : World} {n m b o c : Nat} (hown : w1.ownsRow w.heap.size 29 4 (.slice (some ⟨w.heap.size, 0, none⟩) n n) n (madeCells (rcV 0 0 0 0).cells (n * 4)).toList) (hgrow : w.grownBy w1 none)
    (hsrc : ∀ W, Below w.heap.size w W → ∀ i, i < 1 → Rat W b (o + i * 4) rTry) (hm : m = Nat.min 1 n) (hm1 : 0 + m ≤ n) :
    (Builtin.copy_ #[24, 24] 3 #[.slice (some ⟨w.heap.size, 0, none⟩) n n, .slice (some ⟨b, o, none⟩) 1 c]).run Try.prog w1 = .ok (.int .i64 (m : Int)) (w1.setRow w.heap.size (FL (rpL n m)).toArray) ∧
      Arr w1 w.heap.size 29 (FL (rpL n 0)) ∧ Below w.heap.size w w1 := by
  have hbel : Below w.heap.size w w1 := (Below.refl _ _).grown hgrow (Nat.le_refl _) (by intro k hk; cases hk)
  have A1 : Arr w1 w.heap.size 29 (FL (rpL n 0)) := row_arr (lo := w.heap.size) (n := n) (by
    rw [show rpL n 0 = List.replicate n rz from rfl, ← FL_rep]; exact hown)
  have hcp := copy_try (lo := 0) (sc := c) A1 (hsrc w1 hbel) hm hm1 n
  rw [Nat.zero_mul, Nat.zero_add] at hcp
  exact ⟨hcp, A1, hbel⟩
theorem repRec (b o c n : Nat) (w : World) (h : Rs w (some ⟨b, o, none⟩) 1 c [rTry]) (h2 : n ≤ 3) :
    Calls Try.prog 57 #[.slice (some ⟨b, o, none⟩) 1 c, .int .i64 n] w fun e w' => ∃ v, e = .returned v ∧ w'.ownsRow w.heap.size 29 4 v n (FL (List.replicate n rTry)) ∧ Below w.heap.size w w' := by
  obtain ⟨i0, hi, hz0, hz1, hz2⟩ := info_parts (show (Try.prog.info? 29).map (fun i => (i.zero, i.size, i.bytes)) = some (some (rcV 0 0 0 0), 4, 32) by kernel_rfl)
  have hi4 : (Try.prog.info? 29).map (·.size) = some 4 := by kernel_rfl
  have w3 : IntKind.i64.wrap (n : Int) = n := by rw [IntKind.wrap_i64]; omega
  have w4 : IntKind.u64.wrap (n : Int) = n := by simp [IntKind.wrap, IntKind.signed, IntKind.bits]; omega
  have n1 : ¬ ((n : Int) < 0) := by omega
  have n2 : ¬ (9223372036854775807 < (n : Int)) := by omega
  go_enter Try.func57, Try.ntmps57
  go_wp2_with fail
  refine (mulW n (by omega) (by omega) _).mono ?_
  rintro e w0 ⟨rfl, hw⟩
  rw [hw]
  clear hw
  obtain ⟨m, hm⟩ : ∃ m, m = Nat.min 1 n := ⟨_, rfl⟩
  have hm1 : 0 + m ≤ n := by rw [hm, Nat.zero_add]; exact Nat.min_le_right _ _
  have hmn : m ≤ n ∧ (0 < m ∨ n = 0) := ⟨by rw [hm]; exact Nat.min_le_right _ _, by
    by_cases h0 : n = 0
    · exact .inr h0
    · exact .inl (by rw [hm, show Nat.min 1 n = 1 from Nat.min_eq_left (by omega)]; omega)⟩
  have HM : Hid _ := hm
  clear hm
  have hsrc : Hid (∀ W, Below w.heap.size w W → ∀ i, i < 1 → Rat W b (o + i * 4) rTry) := by
    intro W hW i hi
    obtain ⟨b', o', eb, hlt, hc⟩ := h.opened (by omega)
    cases eb
    obtain rfl : i = 0 := by omega
    exact (hc 0 (by omega)).below hlt hW
  clear h
  go_wp2_with (at_make; refine wpList_make_full _ rfl _ _ 24 rfl w.heap.size 29 i0 (rcV 0 0 0 0) 4 Try.underlying24 hi hz0 hz1 .i64 .i64 n n n rfl rfl rfl rfl (by rw [hz2]; omega) (by unfold maxLen; omega) (Nat.le_refl _) ?_; intro w1 hown hgrow; obtain ⟨hcp, A1, hbel⟩ := mk_first (c := c) hown hgrow hsrc.out HM.out hm1; clear hown hgrow)
  have A2 : Arr (w1.setRow w.heap.size (FL (rpL n m)).toArray) w.heap.size 29 (FL (rpL n m)) := A1.row _
  have B2 : Below w.heap.size w (w1.setRow w.heap.size (FL (rpL n m)).toArray) := setRow_below hbel _ _ (Nat.le_refl _)
  clear A1 hbel hcp hm1
  generalize w1.setRow w.heap.size (FL (rpL n m)).toArray = U at A2 B2 ⊢
  go_loopw [8] (fun i wr => ∃ k : Nat, (k ≤ n ∧ (0 < k ∨ n = 0)) ∧ i = .int .i64 k ∧ Arr wr w.heap.size 29 (FL (rpL n k)) ∧ Below w.heap.size w wr) (fun i _ => n - (intOf i).toNat)
  case atStart => exact ⟨m, hmn, rfl, A2, B2⟩
  case round =>
    clear A2 B2 hmn
    obtain ⟨k, hk, rfl, A, bk⟩ := hrel
    by_cases hlt : k < n
    · have hltI : (k : Int) < (n : Int) := by omega
      obtain ⟨q, hq⟩ : ∃ q, q = Nat.min k (n - k) := ⟨_, rfl⟩
      have hq1 : q ≤ n - k := by rw [hq]; exact Nat.min_le_right _ _
      have hq0 : 1 ≤ q := by rw [hq]; exact Nat.le_min.2 ⟨by omega, by omega⟩
      have hmn : min (k : Int) (n : Int) = (k : Int) := by omega
      have hkn : n ≠ k := by omega
      go_wp2
      try simp only [Act.put]
      refine tameL [kc 38 (.int .i64 (k : Int)), kc 39 (.slice (some ⟨w.heap.size, 0, none⟩) n n), kc 40 (.int .i64 (k : Int)), kc 41 (.slice (some ⟨w.heap.size, k * 4, none⟩) (n - k) (n - k)), kc 42 (.slice (some ⟨w.heap.size, 0, none⟩) n n), kc 43 (.int .i64 (k : Int)), kc 44 (.slice (some ⟨w.heap.size, 0, none⟩) k n)] 7 (by kernel_rfl) (by kernel_rfl) [0] (by kernel_rfl) (by repeat' first | exact trivial | apply kc_keeps | constructor) (fun _ c a d v w h => by cases d <;> exact h) (fun V L i hi => by simp only [List.mem_cons, List.not_mem_nil, or_false] at hi; subst hi; exact ⟨_, _, _, rfl, rfl, .inl ⟨by kernel_rfl, fun _ => by kernel_rfl⟩⟩) 3 (by kernel_rfl) (fun vv ll hh yW bW => ?_) (fun vv ll hh yW bW F ivh aph => ?_)
      · refine ⟨og (tp (by kernel_rfl)) (by kernel_rfl), og (tp (by kernel_rfl)) (by kernel_rfl), og (tp (by kernel_rfl)) (by kernel_rfl), og (tp ?_) (by kernel_rfl), og (tp (by kernel_rfl)) (by kernel_rfl), og (tp (by kernel_rfl)) (by kernel_rfl), og (tp ?_) (by kernel_rfl), trivial⟩
        · simp only [fillK, putT, List.setIfInBounds_toArray, List.set_cons_zero, List.set_cons_succ]
          unfold execOp
          go_simp
        · simp only [fillK, putT, List.setIfInBounds_toArray, List.set_cons_zero, List.set_cons_succ]
          unfold execOp
          go_simp
      clear F ivh aph
      obtain ⟨y, hy⟩ : ∃ z, z = yW := ⟨_, rfl⟩
      rw [← hy] at bW ⊢
      clear hy
      have Ay := A.kept bW
      have hcp := copy_try (lo := 0) (sc := n) (b := w.heap.size) (o := 0) (sl := k) (dn := n - k) Ay (fun i hi => by
        have := rq_at (arr_row (n := n) (lo := 0) Ay (rpL_len hk.1) (by omega) (Nat.zero_le _)) i (by omega)
        rw [show rg (rpL n k) i = rTry by unfold rg rpL; rw [List.getD_eq_getElem?_getD, List.getElem?_append_left (by simpa using hi), List.getElem?_replicate_of_lt hi]; rfl] at this
        simpa using this) hq (by omega) (n - k)
      have AZ : Arr (y.setRow w.heap.size (FL (rpL n (k + q))).toArray) w.heap.size 29 (FL (rpL n (k + q))) := Ay.row _
      have bZ : Below w.heap.size w (y.setRow w.heap.size (FL (rpL n (k + q))).toArray) := setRow_below (bk.trans (bW.mono bk.size)) _ _ (Nat.le_refl _)
      have hwq : IntKind.i64.wrap ((k : Int) + (q : Int)) = (k : Int) + (q : Int) := by rw [IntKind.wrap_i64]; omega
      have HCP : Hid _ := hcp
      clear hcp A Ay hq hmn
      refine st_val (i := 7) (o := { dst := some 45, op := Op.call { callee := Callee.builtin Builtin.copy, args := #[Operand.tmp 41, Operand.tmp 44], argTypes := #[24, 24] }, type := 3, pos := "slices.go:528", after := #[{ on := 3, ground := Ground.data }, { on := 6, ground := Ground.data }], guard := none }) (by kernel_rfl) rfl rfl (v := .int .i64 (q : Int)) (w' := y.setRow w.heap.size (FL (rpL n (k + q))).toArray) ?_ ?_
      · simp only [fillK, putT, List.setIfInBounds_toArray, List.set_cons_zero, List.set_cons_succ]
        unfold execOp
        simp only [resolve, invoke, builtin, Sem.run_bind, Sem.run_pure, Result.andThen_ok, List.map_toArray, List.map_cons, List.map_nil]
        exact congrArg (fun q => q.andThen fun a w' => Result.ok (Next.value a) w') HCP.out
      generalize y.setRow w.heap.size (FL (rpL n (k + q))).toArray = Z at AZ bZ ⊢
      simp only [fillK, putT, List.setIfInBounds_toArray, List.set_cons_zero, List.set_cons_succ]
      try simp only [Act.put]
      refine st_val (i := 8) (o := { dst := some 46, op := Op.binOp BinOp.add 3 (Operand.tmp 38) (Operand.tmp 45) 3, type := 3, pos := "slices.go:528", after := #[{ on := 0, ground := Ground.data }, { on := 7, ground := Ground.data }], guard := none }) (by kernel_rfl) rfl rfl (v := .int .i64 ((k : Int) + (q : Int))) (w' := Z) ?_ ?_
      · try simp only [List.setIfInBounds_toArray, List.set_cons_zero, List.set_cons_succ]
        unfold execOp
        go_simp
      refine st_val (i := 9) (o := { dst := some 8, op := Op.assign (Operand.tmp 46), type := 3, pos := "slices.go:528", after := #[{ on := 8, ground := Ground.data }, { on := 7, ground := Ground.chain }, { on := 0, ground := Ground.phase }, { on := 1, ground := Ground.phase }, { on := 2, ground := Ground.phase }, { on := 3, ground := Ground.phase }, { on := 4, ground := Ground.phase }, { on := 5, ground := Ground.phase }, { on := 6, ground := Ground.phase }, { on := 7, ground := Ground.phase }, { on := 8, ground := Ground.phase }], guard := none }) (by kernel_rfl) rfl rfl (v := .int .i64 ((k : Int) + (q : Int))) (w' := Z) (by kernel_rfl) ?_
      refine wpAny_done (by kernel_rfl) ?_ _
      try simp only [Act.put]
      try simp only [List.setIfInBounds_toArray, List.set_cons_zero, List.set_cons_succ]
      go_wp2
      go_roundw
      case rel => exact ⟨k + q, by omega, by go_num, AZ, bZ⟩
      case measure => simp [intOf]; omega
    · have hkn : k = n := by omega
      subst hkn
      have O : wr.ownsRow w.heap.size 29 4 (.slice (some ⟨w.heap.size, 0, none⟩) k k) k (FL (List.replicate k rTry)) := by
        have := arr_row (n := k) (lo := w.heap.size) A (rpL_len (Nat.le_refl k)) (by omega) (Nat.le_refl _)
        rw [show rpL k k = List.replicate k rTry by unfold rpL; simp] at this
        exact this
      clear A
      go_wp2
      go_ret
      exact ⟨_, rfl, O, bk⟩
end Go.Proofs.Ytjceajgefpinpaa

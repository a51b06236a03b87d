/-
  What is proved here: what the laws' markByteS does to a converted row; where such rows lie; what the row's laid variables give the walks; what the laws' markPartS does: it turns nothing but the row and the rows in it; what the laws' toBundle and markBundle do, and where their rows lie.
-/
import Derived.Test.YtgfjbaigmkdbcaaDoorJB5
import Derived.Test.YtgfjbaigmkdbcaaDoorJB15
import Derived.Test.YtgfjbaigmkdbcaaDoorJB13
import Derived.Test.YtgfjbaigmkdbcaaDoorJB16
import Derived.Test.YtgfjbaigmkdbcaaDoorJB18
namespace Go.Proofs.YtgfjbaigmkdbcaaDoor
open Go.RowKit
set_option maxRecDepth 100000
set_option maxHeartbeats 2000000
set_option linter.unusedVariables false

theorem marks_setM (xs : List Int) (k0 : Int) (n k : Nat) (h : k < n) (hn : xs.length = n) : (marks k0 k ++ xs.drop k).set k ((k0 + (k : Int)) % 256) = marks k0 (k + 1) ++ xs.drop (k + 1) := by
  have e : xs.drop k = xs.getD k 0 :: xs.drop (k + 1) := by
    rw [List.drop_eq_getElem_cons (by omega)]; simp [show k < xs.length by omega]
  have e2 : marks k0 (k + 1) = marks k0 k ++ [(k0 + (k : Int)) % 256] := by simp [marks, List.range_succ]
  rw [e, e2]
  rw [List.set_append_right _ _ (by simp [marks_len])]
  simp [marks_len]

theorem ownM.shape {w : World} {base n : Nat} {v : Value} {xs : List Int} (h : ownM w base v n xs) : xs.length = n ∧ ((v = .slice none 0 0 ∧ n = 0) ∨ ∃ g cap, v = .slice (some ⟨g, 0, none⟩) n cap ∧ base ≤ g ∧ g < w.heap.size ∧ n ≤ cap ∧ cap ≤ maxLen) := by
  obtain ⟨hl, h | ⟨g, cap, cur, fz, rfl, h1, h2, _, h3, h4, _⟩⟩ := h
  · exact ⟨hl, .inl h⟩
  · exact ⟨hl, .inr ⟨g, cap, rfl, h1, (Array.getElem?_eq_some_iff.1 h2).1, h3, h4⟩⟩
theorem ownM.frozen {w : World} {base n g c : Nat} {xs : List Int} (h : ownM w base (.slice (some ⟨g, 0, none⟩) n c) n xs) (k : Nat) (hk : k < n) : w.frozen? ⟨g, k, none⟩ = false := by
  obtain ⟨hl, hn | ⟨g', cap, cur, fz, e, _, hgg, hf, hnc, _, hs, _⟩⟩ := h
  · cases hn.1
  · simp only [Value.slice.injEq, Option.some.injEq, Addr.mk.injEq] at e
    obtain ⟨⟨rfl, _⟩, _, rfl⟩ := e
    exact far_cell hgg (by rw [hs]; exact hf) (by omega)
theorem ownM.stored {w : World} {base n g c : Nat} {xs : List Int} (h : ownM w base (.slice (some ⟨g, 0, none⟩) n c) n xs) (k : Nat) (x : Int) (hk : k < n) :
    ownM (w.setCell ⟨g, k, none⟩ (.int .u8 x)) base (.slice (some ⟨g, 0, none⟩) n c) n (xs.set k x) ∧ w.grownBy (w.setCell ⟨g, k, none⟩ (.int .u8 x)) (some g) := by
  obtain ⟨hl, hn | ⟨g', cap, cur, fz, e, hb, hgg, hf, hnc, hm, hs, ht⟩⟩ := h
  · cases hn.1
  · simp only [Value.slice.injEq, Option.some.injEq, Addr.mk.injEq] at e
    obtain ⟨⟨rfl, _⟩, _, rfl⟩ := e
    refine ⟨⟨by simpa using hl, .inr ⟨g, c, cur.setIfInBounds k (.int .u8 x), fz, rfl, hb, by rw [setCell_eq_setRow w g k cur 5 fz _ hgg]; exact setRow_heap w g cur _ 5 fz hgg, hf, hnc, hm, by simpa using hs, ?_⟩⟩, ⟨rfl, rfl, rfl, by simp, fun i hi hne => heap_setCell_other w ⟨g, k, none⟩ i _ (fun h => hne (by rw [h]))⟩⟩
    rw [Array.toList_setIfInBounds, List.take_set, ht]
    simp [U8]
theorem markBM (B n : Nat) (v : Value) (k0 : Int) (xs : List Int) (w : World) (hown : ownM w B v n xs) (hn : n ≤ 2097152) (h0 : 0 ≤ k0) (h1 : k0 ≤ 4611686018427387904) :
    Calls Tryd.prog 14 #[v, .int .i64 k0] w fun e w' => e = .returned (.int .i64 (k0 + n)) ∧ ownM w' B v n (marks k0 n) ∧ w.grownBy w' v.ownBlock := by
  obtain ⟨hl, ⟨rfl, rfl⟩ | ⟨g, cap, rfl, hg, hgs, hnc, hcm⟩⟩ := hown.shape
  · go_enter Tryd.func14, Tryd.ntmps14
    go_wp2
    refine wp_loop_rounds 1 ?_
    rw [rounds_succ]
    go_wp2
    go_ret
    exact ⟨by simp, ⟨by simp [marks], .inl ⟨rfl, rfl⟩⟩, World.grownBy.refl _ _⟩
  · have HO0 : Hid (ownM w B (.slice (some ⟨g, 0, none⟩) n cap) n (marks k0 0 ++ xs.drop 0)) := by unfold Hid; simpa [marks] using hown
    clear hown
    go_enter Tryd.func14, Tryd.ntmps14
    go_wp2
    go_loopw [1, 5] (fun m i wr => ∃ k : Nat, k ≤ n ∧ i = .int .i64 k ∧ m = .int .i64 (k0 + k) ∧ Hid (ownM wr B (.slice (some ⟨g, 0, none⟩) n cap) n (marks k0 k ++ xs.drop k)) ∧ w.grownBy wr (some g)) (fun _ i _ => n - (intOf i).toNat)
    case atStart => exact ⟨0, Nat.zero_le _, rfl, by simp, HO0, World.grownBy.refl _ _⟩
    case round =>
      clear HO0
      obtain ⟨k, hk, rfl, rfl, HO, hb⟩ := hrel
      by_cases hlt : k < n
      · have hfz := HO.out.frozen k hlt
        have hu := HO.out.cells k hlt
        obtain ⟨u, hU⟩ : ∃ u : Int, u = (marks k0 k ++ xs.drop k).getD k 0 := ⟨_, rfl⟩
        rw [← hU] at hu
        have HS := HO.out.stored k ((k0 + (k : Int)) % 256) hlt
        rw [marks_setM xs k0 n k hlt hl] at HS
        have HS1 : Hid (ownM (wr.setCell ⟨g, k, none⟩ (.int .u8 ((k0 + (k : Int)) % 256))) B (.slice (some ⟨g, 0, none⟩) n cap) n (marks k0 (k + 1) ++ xs.drop (k + 1))) := HS.1
        have HS2 : Hid (wr.grownBy (wr.setCell ⟨g, k, none⟩ (.int .u8 ((k0 + (k : Int)) % 256))) (some g)) := HS.2
        have HB : Hid (w.grownBy wr (some g)) := hb
        have hcv : IntKind.u8.wrap (k0 + (k : Int)) = (k0 + (k : Int)) % 256 := by simp [IntKind.wrap, IntKind.signed, IntKind.bits]
        clear HS hb HO hU
        go_wp2
        go_roundw
        case rel => exact ⟨k + 1, by omega, by go_num, by go_num, HS1, grown_trans HB.out HS2.out⟩
        case measure => simp [intOf]; omega
      · have hkn : k = n := by omega
        subst hkn
        have hd : xs.drop k = [] := List.drop_eq_nil_of_le (by omega)
        rw [hd, List.append_nil] at HO
        go_wp2
        go_ret
        exact ⟨rfl, HO.out, hb⟩
/-- A converted row within [lo, hi). -/
structure RoM (W : World) (lo hi : Nat) (v : Value) (n : Nat) (l : List Int) : Prop where
  o : ownM W lo v n l
  i : In v lo hi
  z : hi ≤ W.heap.size
section
variable {W W' : World} {lo hi n : Nat} {v : Value} {l : List Int}
theorem RoM.new (o : ownM W lo v n l) : RoM W lo W.heap.size v n l := ⟨o, fun k hk => o.lt k hk, Nat.le_refl _⟩
theorem RoM.chg (h : RoM W lo hi v n l) {a b : Nat} (hc : Chg W W' a b) (hl : hi ≤ a ∨ b ≤ lo ∨ b ≤ a) : RoM W' lo hi v n l :=
  ⟨h.o.kept (fun k hk => hc.block k (h.o.lt k hk).2 (by have := h.i k hk; omega)), h.i, Nat.le_trans h.z hc.size⟩
theorem RoM.marked (h : RoM W lo hi v n l) {l' : List Int} (hg : W.grownBy W' v.ownBlock) (o : ownM W' lo v n l') : RoM W' lo hi v n l' := ⟨o, h.i, Nat.le_trans h.z hg.size⟩
theorem RoM.gr (h : RoM W lo hi v n l) (hg : W.grownBy W' v.ownBlock) : Chg W W' lo hi := .of_grown hg h.i
theorem RoM.bs {a : Option Addr} {c : Nat} (h : RoM W lo hi (.slice a n c) n l) (hy : ∀ x ∈ l, 0 ≤ x ∧ x < 256) : Bs W a n c l := by
  obtain ⟨a', c', e, hb⟩ := h.o.bs hy
  simp only [Value.slice.injEq, true_and] at e
  obtain ⟨rfl, rfl⟩ := e
  exact hb
end
end Go.Proofs.YtgfjbaigmkdbcaaDoor
namespace Go.Proofs.YtgfjbaigmkdbcaaDoor
open Go.RowKit
set_option maxRecDepth 100000
set_option maxHeartbeats 4000000
set_option linter.unusedVariables false

/-- A row as Pq, all of it below block hi. -/
structure Pqh (lo hi : Nat) (W : World) (a : Option Addr) (n c : Nat) (xs : List PartM) : Prop where
  len : xs.length = n
  cap : n ≤ c
  z : hi ≤ W.heap.size
  row : ∃ g l, a = some ⟨g, 0, none⟩ ∧ lo ≤ g ∧ g < hi ∧ W.ownsRow lo 63 4 (.slice a n c) n (QL l) ∧ (∀ q, q < n → ∃ b d, lg l q = part4 (xs.getD q pz) b d ∧ W.ownsRow (g + 1) 5 1 (.slice b (xs.getD q pz).h.length d) (xs.getD q pz).h.length (U8 (xs.getD q pz).h) ∧ In (.slice b (xs.getD q pz).h.length d) (g + 1) hi) ∧ ∀ q q', q < q' → q' < n → Apart (lg l q).d (lg l q').d
theorem Pqh.of {lo : Nat} {W : World} {a : Option Addr} {n c : Nat} {xs : List PartM} (h : Pq lo W a n c xs) : Pqh lo W.heap.size W a n c xs := by
  obtain ⟨h0, h1, g, l, rfl, h2, h3, h4, h5, h6⟩ := h
  refine ⟨h0, h1, Nat.le_refl _, g, l, rfl, h2, h3, h4, fun q hq => ?_, h6⟩
  obtain ⟨b, d, e, o⟩ := h5 q hq
  exact ⟨b, d, e, o, In.of o⟩
theorem Pqh.q {lo hi : Nat} {W : World} {a : Option Addr} {n c : Nat} {xs : List PartM} (h : Pqh lo hi W a n c xs) : Pq lo W a n c xs := by
  obtain ⟨h0, h1, hz, g, l, rfl, h2, h3, h4, h5, h6⟩ := h
  refine ⟨h0, h1, g, l, rfl, h2, by omega, h4, fun q hq => ?_, h6⟩
  obtain ⟨b, d, e, o, _⟩ := h5 q hq
  exact ⟨b, d, e, o⟩
theorem Pqh.chg {lo hi a' b' : Nat} {W W' : World} {a : Option Addr} {n c : Nat} {xs : List PartM} (h : Pqh lo hi W a n c xs) (hc : Chg W W' a' b') (hl : hi ≤ a' ∨ b' ≤ lo ∨ b' ≤ a') : Pqh lo hi W' a n c xs := by
  obtain ⟨h0, h1, hz, g, l, rfl, h2, h3, h4, h5, h6⟩ := h
  have ir : In (.slice (some ⟨g, 0, none⟩) n c) lo hi := fun k hk => by cases hk; exact ⟨h2, h3⟩
  by_cases hab : b' ≤ a'
  · have hc' : Chg W W' hi hi := ⟨hc.os, hc.tape, hc.output, hc.size, fun i hi _ => hc.block i hi (by omega)⟩
    refine ⟨h0, h1, Nat.le_trans hz hc.size, g, l, rfl, h2, h3, own_chg h4 ir hc' (by omega), fun q hq => ?_, h6⟩
    obtain ⟨b, d, e, o, i⟩ := h5 q hq
    exact ⟨b, d, e, own_chg o i hc' (by omega), i⟩
  · refine ⟨h0, h1, Nat.le_trans hz hc.size, g, l, rfl, h2, h3, own_chg h4 ir hc (by omega), fun q hq => ?_, h6⟩
    obtain ⟨b, d, e, o, i⟩ := h5 q hq
    exact ⟨b, d, e, own_chg o i hc (by omega), i⟩
theorem chg_r3 {w W : World} {lo hi g : Nat} (h : Chg w W lo hi) (h1 : lo ≤ g) (h2 : g < hi) (m : Nat) (a b c : Value) : Chg w (((W.setCell ⟨g, m, none⟩ a).setCell ⟨g, m + 1, none⟩ b).setCell ⟨g, m + 2, none⟩ c) lo hi :=
  ⟨h.os, h.tape, h.output, by simpa using h.size, fun i hi hj => by
    have e : ∀ (X : World) (q : Nat) (v : Value), (X.setCell ⟨g, q, none⟩ v).heap[i]? = X.heap[i]? := fun X q v => heap_setCell_other X ⟨g, q, none⟩ i v (fun h => by have e2 : i = g := h; omega)
    rw [e, e, e]
    exact h.block i hi hj⟩
theorem chg_tr {w W W' : World} {lo hi : Nat} (h : Chg w W lo hi) (h' : Chg W W' lo hi) : Chg w W' lo hi :=
  ⟨h'.os.trans h.os, h'.tape.trans h.tape, h'.output.trans h.output, Nat.le_trans h.size h'.size, fun i hi hj => (h'.block i (Nat.lt_of_lt_of_le hi h.size) hj).trans (h.block i hi hj)⟩
theorem own_r3 {W : World} {b e s n : Nat} {v : Value} {xs : List Value} (h : W.ownsRow b e s v n xs) {g : Nat} (hg : g < b) (m : Nat) (p q r : Value) :
    (((W.setCell ⟨g, m, none⟩ p).setCell ⟨g, m + 1, none⟩ q).setCell ⟨g, m + 2, none⟩ r).ownsRow b e s v n xs :=
  own_other (own_other (own_other h _ _ hg) _ _ hg) _ _ hg
theorem markPartSC (lo hi : Nat) (a : Option Addr) (n c : Nat) (xs : List PartM) (k0 : Int) (w : World) (h : Pqh lo hi w a n c xs) (hs : PqSm n xs) (h0 : 0 ≤ k0) (h1 : k0 ≤ 10000000) :
    Calls Tryd.prog 36 #[.slice a n c, .int .i64 k0] w fun e w' => ∃ x : Int, e = .returned (.int .i64 x) ∧ (0 ≤ x ∧ x ≤ 1099514773504 + k0) ∧ Chg w w' lo hi := by
  obtain ⟨hl, _, hz, g, l0, rfl, hg1, hg2, hown0, hall0, hap0⟩ := h
  have hn1 := hs.1
  have HI0 : Hid (∃ l, w.ownsRow lo 63 4 (.slice (some ⟨g, 0, none⟩) n c) n (QL l) ∧ (∀ q, q < n → ∃ b d ys, (lg l q).d = .slice b (xs.getD q pz).h.length d ∧ w.ownsRow (g + 1) 5 1 (.slice b (xs.getD q pz).h.length d) (xs.getD q pz).h.length (U8 ys) ∧ In (.slice b (xs.getD q pz).h.length d) (g + 1) hi) ∧ ∀ q q', q < q' → q' < n → Apart (lg l q).d (lg l q').d) :=
    ⟨l0, hown0, fun q hq => by
      obtain ⟨b, d, e, o, i⟩ := hall0 q hq
      exact ⟨b, d, _, by rw [e], o, i⟩, hap0⟩
  have HSm : Hid (PqSm n xs) := hs
  clear hown0 hall0 hap0 hs
  go_enter Tryd.func36, Tryd.ntmps36
  go_wp2
  go_loopw [1, 5] (fun m i wr => ∃ j : Nat, j ≤ n ∧ i = .int .i64 j ∧ (∃ r : Int, m = .int .i64 r ∧ 0 ≤ r ∧ r ≤ k0 + 1048579 * (j : Int)) ∧ Hid (∃ l, wr.ownsRow lo 63 4 (.slice (some ⟨g, 0, none⟩) n c) n (QL l) ∧ (∀ q, q < n → ∃ b d ys, (lg l q).d = .slice b (xs.getD q pz).h.length d ∧ wr.ownsRow (g + 1) 5 1 (.slice b (xs.getD q pz).h.length d) (xs.getD q pz).h.length (U8 ys) ∧ In (.slice b (xs.getD q pz).h.length d) (g + 1) hi) ∧ ∀ q q', q < q' → q' < n → Apart (lg l q).d (lg l q').d) ∧ Chg w wr lo hi) (fun _ i _ => n - (intOf i).toNat)
  case atStart => exact ⟨0, Nat.zero_le _, rfl, ⟨_, rfl, by omega, by omega⟩, HI0.out, ⟨rfl, rfl, rfl, Nat.le_refl _, fun _ _ _ => rfl⟩⟩
  case round =>
    clear HI0
    obtain ⟨j, hj, rfl, ⟨r, rfl, hr0, hr1⟩, HI, hc⟩ := hrel
    by_cases hlt : j < n
    · obtain ⟨l, hown, hall, hap⟩ := HI.out
      obtain ⟨b, d, ys, e3, o, i⟩ := hall j hlt
      have hsm := HSm.out.2 j hlt
      obtain ⟨m, hm⟩ : ∃ m, m = (xs.getD j pz).h.length := ⟨_, rfl⟩
      rw [← hm] at e3 o i hsm
      obtain ⟨c0, c1, c2, c3⟩ := q4_at hown j hlt
      rw [e3] at c3
      have f0 := fun j => hown.frozenAt j
      have lS := (hown.lt g rfl).2
      have w1 : IntKind.i64.wrap (r + 1) = r + 1 := wr64 (by omega) (by omega)
      have w2 : IntKind.i64.wrap (r + 1 + 1) = r + 2 := by rw [show r + 1 + 1 = r + 2 by omega]; exact wr64 (by omega) (by omega)
      have w3 : IntKind.i64.wrap (r + 2 + 1) = r + 3 := by rw [show r + 2 + 1 = r + 3 by omega]; exact wr64 (by omega) (by omega)
      have HS : Hid _ := (((hown.stored (j * 4) (.int .i64 r)).1.stored (j * 4 + 1) (.int .i64 (r + 1))).1.stored (j * 4 + 2) (.int .i64 (r + 2))).1
      have HC : Hid _ := chg_r3 hc hg1 hg2 (j * 4) (.int .i64 r) (.int .i64 (r + 1)) (.int .i64 (r + 2))
      have HO : Hid _ := own_r3 o (Nat.lt_succ_self g) (j * 4) (.int .i64 r) (.int .i64 (r + 1)) (.int .i64 (r + 2))
      have HIn : Hid _ := i
      have HAL : Hid (∀ q, q < n → ∃ b d ys, (lg l q).d = .slice b (xs.getD q pz).h.length d ∧ (((wr.setCell ⟨g, j * 4, none⟩ (.int .i64 r)).setCell ⟨g, j * 4 + 1, none⟩ (.int .i64 (r + 1))).setCell ⟨g, j * 4 + 2, none⟩ (.int .i64 (r + 2))).ownsRow (g + 1) 5 1 (.slice b (xs.getD q pz).h.length d) (xs.getD q pz).h.length (U8 ys) ∧ In (.slice b (xs.getD q pz).h.length d) (g + 1) hi) := by
        intro q hq
        obtain ⟨b, d, ys, e, o, i⟩ := hall q hq
        exact ⟨b, d, ys, e, own_r3 o (Nat.lt_succ_self g) (j * 4) (.int .i64 r) (.int .i64 (r + 1)) (.int .i64 (r + 2)), i⟩
      have HAp : Hid _ := hap
      have HE : Hid _ := e3
      have HM : Hid _ := hm
      have hll := q4_len hown
      have HLL : Hid (l.length = n) := hll
      clear hll hown hall hap o i hc hm e3 HI
      go_wp2_with fail
      refine (markB (g + 1) m _ (r + 3) ys _ HO.out (by omega) (by omega) (by omega)).mono ?_
      rintro e w5 ⟨rfl, o5, g5⟩
      obtain ⟨W4, hW4⟩ : ∃ W4, W4 = (((wr.setCell ⟨g, j * 4, none⟩ (.int .i64 r)).setCell ⟨g, j * 4 + 1, none⟩ (.int .i64 (r + 1))).setCell ⟨g, j * 4 + 2, none⟩ (.int .i64 (r + 2))) := ⟨_, rfl⟩
      rw [← hW4] at HS HC HO HAL g5
      have HC5 : Hid (Chg w w5 lo hi) := chg_tr HC.out (Chg.of_grown g5 (fun k hk => by have := HIn.out k hk; omega))
      have HI5 : Hid (∃ l, w5.ownsRow lo 63 4 (.slice (some ⟨g, 0, none⟩) n c) n (QL l) ∧ (∀ q, q < n → ∃ b d ys, (lg l q).d = .slice b (xs.getD q pz).h.length d ∧ w5.ownsRow (g + 1) 5 1 (.slice b (xs.getD q pz).h.length d) (xs.getD q pz).h.length (U8 ys) ∧ In (.slice b (xs.getD q pz).h.length d) (g + 1) hi) ∧ ∀ q q', q < q' → q' < n → Apart (lg l q).d (lg l q').d) := by
        have hq4 : (lg l j).d = .slice b m d := HE.out
        refine ⟨l.set j ⟨.int .i64 r, .int .i64 (r + 1), .int .i64 (r + 2), .slice b m d⟩, ?_, fun q hq => ?_, fun q q' h1 h2 => ?_⟩
        · have hs : QL (l.set j ⟨.int .i64 r, .int .i64 (r + 1), .int .i64 (r + 2), .slice b m d⟩) = (((QL l).set (j * 4) (.int .i64 r)).set (j * 4 + 1) (.int .i64 (r + 1))).set (j * 4 + 2) (.int .i64 (r + 2)) := by
            rw [QL_set l j _ (by rw [HLL.out]; exact hlt)]
            dsimp only
            have hg := (QL_get l j (by rw [HLL.out]; exact hlt)).2.2.2
            rw [hq4] at hg
            apply List.ext_getElem?
            intro i
            by_cases e : i = j * 4 + 3
            · subst e
              have hlen : j * 4 + 3 < (QL l).length := (List.getElem?_eq_some_iff.1 hg).1
              rw [List.getElem?_set_self (by simpa using hlen), List.getElem?_set_ne (by omega), List.getElem?_set_ne (by omega), List.getElem?_set_ne (by omega), hg]
            · rw [List.getElem?_set_ne (by omega)]
          rw [hs]
          exact own_kept HS.out g5 (fun k h1 h2 => by have := HIn.out k h1; have e : g = k := Option.some.inj h2; omega)
        · rw [lg_set _ _ _ _ (by rw [HLL.out]; exact hlt)]
          split
          · next e => subst e; rw [← HM.out]; exact ⟨b, d, _, rfl, o5, HIn.out⟩
          · next e =>
            obtain ⟨b', d', ys', e', o', i'⟩ := HAL.out q hq
            refine ⟨b', d', ys', e', own_kept o' g5 ?_, i'⟩
            rw [← hq4, ← e']
            rcases Nat.lt_or_gt_of_ne e with h | h
            · exact (HAp.out q j h hlt).symm
            · exact HAp.out j q h hq
        · rw [lg_set _ _ _ _ (by rw [HLL.out]; exact hlt), lg_set _ _ _ _ (by rw [HLL.out]; exact hlt)]
          have := HAp.out q q' h1 h2
          by_cases e1 : q = j
          · subst e1
            rw [if_pos rfl, if_neg (by omega)]
            show Apart (.slice b m d) _
            rw [← hq4]
            exact this
          · by_cases e2 : q' = j
            · subst e2
              rw [if_neg e1, if_pos rfl]
              show Apart _ (.slice b m d)
              rw [← hq4]
              exact this
            · rw [if_neg e1, if_neg e2]
              exact this
      clear hW4 HS HC HO HAL g5 o5 HAp HE HIn c0 c1 c2 c3 f0
      go_wp2
      go_roundw
      case rel => exact ⟨j + 1, by omega, by go_num, ⟨_, rfl, by omega, by omega⟩, HI5, HC5.out⟩
      case measure => simp [intOf]; omega
    · have hkn : j = n := by omega
      subst hkn
      go_wp2
      go_ret
      exact ⟨r, rfl, ⟨hr0, by omega⟩, hc⟩
end Go.Proofs.YtgfjbaigmkdbcaaDoor
namespace Go.Proofs.YtgfjbaigmkdbcaaDoor
open Go.RowKit
set_option maxRecDepth 100000
set_option maxHeartbeats 4000000
set_option linter.unusedVariables false

theorem Chg.wide {W W' : World} {a b a' b' : Nat} (h : Chg W W' a b) (h1 : a' ≤ a) (h2 : b ≤ b') : Chg W W' a' b' := ⟨h.os, h.tape, h.output, h.size, fun i hi hj => h.block i hi (by omega)⟩
theorem Chg.cell {W : World} (p : Addr) (u : Value) : Chg W (W.setCell p u) p.block (p.block + 1) :=
  ⟨rfl, rfl, rfl, by simp, fun i _ hj => heap_setCell_other W p i u (fun e => by omega)⟩
section
variable {lo hi : Nat} {W W' : World} {a : Option Addr} {n c : Nat} {xs : List PartM}
theorem Pqh.belowh (h : Pqh lo hi W a n c xs) (hb : Below W.heap.size W W') : Pqh lo hi W' a n c xs := h.chg (.of_below hb hi) (.inr (.inr (Nat.le_refl _)))
theorem Pqh.other (h : Pqh lo hi W a n c xs) (p : Addr) (u : Value) (hp : p.block < lo) : Pqh lo hi (W.setCell p u) a n c xs := h.chg (Chg.cell p u) (.inr (.inl hp))
theorem Pqh.base {lo' : Nat} (h : Pqh lo hi W a n c xs) (hl : lo' ≤ lo) : Pqh lo' hi W a n c xs := by
  obtain ⟨h0, h1, hz, g, l, rfl, h2, h3, h4, h5, h6⟩ := h
  exact ⟨h0, h1, hz, g, l, rfl, by omega, h3, own_base h4 hl, h5, h6⟩
end
theorem toBundleC2 (d n f : Int) (pa : Option Addr) (pn pc : Nat) (na : Option Addr) (nn nc : Nat) (ps : List PartM) (ns : List NeedM) (w : World) (hP : Ps w pa pn pc ps) (hN : Ns w na nn nc ns) (hp : PqSm pn ps) (hn : nn ≤ 1048576) :
    Calls Tryd.prog 9 #[bunV d n f pa pn pc na nn nc] w fun e w' => ∃ pa' pc' na' nc' mid, e = .returned (bunV d n f pa' pn pc' na' nn nc') ∧ Pqh w.heap.size mid w' pa' pn pc' ps ∧ Rq w' mid w'.heap.size 65 (.slice na' nn nc') nn (ns.map nrc) ∧ w.heap.size ≤ mid ∧ mid ≤ w'.heap.size ∧ Below w.heap.size w w' := by
  obtain ⟨V, hV⟩ : ∃ V, V = (((w.alloc (.cells #[.int .i64 d, .int .i64 n, .int .i64 f, .slice pa pn pc, .slice na nn nc] 25)).alloc (.cells #[.int .i64 0, .int .i64 0, .int .i64 0, .slice none 0 0, .slice none 0 0] 32)).alloc (.cells #[.int .i64 d, .int .i64 n, .int .i64 f, .slice none 0 0, .slice none 0 0] 32)) := ⟨_, rfl⟩
  have hL : Below w.heap.size w V := by rw [hV]; exact (((Below.refl _ _).alloc (Nat.le_refl _) _).alloc (by simp) _).alloc (by simp; omega) _
  have hA0 : Arr V w.heap.size 25 [.int .i64 d, .int .i64 n, .int .i64 f, .slice pa pn pc, .slice na nn nc] := by
    rw [hV]
    have := ((Arr.new w [.int .i64 d, .int .i64 n, .int .i64 f, .slice pa pn pc, .slice na nn nc] 25).alloc (.cells #[.int .i64 0, .int .i64 0, .int .i64 0, .slice none 0 0, .slice none 0 0] 32)).alloc (.cells #[.int .i64 d, .int .i64 n, .int .i64 f, .slice none 0 0, .slice none 0 0] 32)
    exact this
  have hA1 : Arr V (w.heap.size + 1) 32 [.int .i64 0, .int .i64 0, .int .i64 0, .slice none 0 0, .slice none 0 0] := by
    rw [hV]
    have := (Arr.new (w.alloc (.cells #[.int .i64 d, .int .i64 n, .int .i64 f, .slice pa pn pc, .slice na nn nc] 25)) [.int .i64 0, .int .i64 0, .int .i64 0, .slice none 0 0, .slice none 0 0] 32).alloc (.cells #[.int .i64 d, .int .i64 n, .int .i64 f, .slice none 0 0, .slice none 0 0] 32)
    simpa using this
  have hA2 : Arr V (w.heap.size + 1 + 1) 32 [.int .i64 d, .int .i64 n, .int .i64 f, .slice none 0 0, .slice none 0 0] := by
    rw [hV]
    have := Arr.new ((w.alloc (.cells #[.int .i64 d, .int .i64 n, .int .i64 f, .slice pa pn pc, .slice na nn nc] 25)).alloc (.cells #[.int .i64 0, .int .i64 0, .int .i64 0, .slice none 0 0, .slice none 0 0] 32)) [.int .i64 d, .int .i64 n, .int .i64 f, .slice none 0 0, .slice none 0 0] 32
    simpa using this
  have zV : w.heap.size + 3 ≤ V.heap.size := by rw [hV]; simp
  have HN : Hid (Ns w na nn nc ns) := hN
  have HP : Hid (PqSm pn ps) := hp
  go_enter Tryd.func9, Tryd.ntmps9
  go_wp2_with fail
  rw [← hV]
  refine (toPartSC pa pn pc ps _ (hP.below hL) HP.out).mono ?_
  rintro e w1 ⟨a1, c1, rfl, ho1, hb1⟩
  clear hV hP hN hp
  have hb1' := hL.trans (hb1.mono hL.size)
  have k0 := hA0.kept hb1
  have k1 := hA1.kept hb1
  have k2 := hA2.kept hb1
  clear hA0 hA1 hA2
  have c4 := k0.cell 4
  have d3 := k2.cell 3
  have f2 := k2.frozen
  simp at c4 d3
  have hlt := k2.lt
  go_wp2_with fail
  have hb2 : Below w.heap.size w (w1.setCell ⟨w.heap.size + 1 + 1, 3, none⟩ (.slice a1 pn c1)) := hb1'.setCell (by simp; omega) _
  have hWW2 : V.heap.size ≤ (w1.setCell ⟨w.heap.size + 1 + 1, 3, none⟩ (.slice a1 pn c1)).heap.size := by simpa using hb1.size
  have ho2 := ho1.other ⟨w.heap.size + 1 + 1, 3, none⟩ (.slice a1 pn c1) (by simp; omega)
  have m1 := k1.other ⟨w.heap.size + 1 + 1, 3, none⟩ (.slice a1 pn c1) (by simp)
  have m2 : Arr _ _ _ [.int .i64 d, .int .i64 n, .int .i64 f, .slice a1 pn c1, .slice none 0 0] := k2.set 3 (.slice a1 pn c1)
  generalize (w1.setCell ⟨w.heap.size + 1 + 1, 3, none⟩ (.slice a1 pn c1)) = W2 at hb2 ho2 m1 m2 hWW2 ⊢
  clear c4 d3 f2 hlt k0 k1 k2 ho1 hb1 hb1'
  refine (toNeedSC na nn nc _ _ (HN.out.below hb2).rs hn).mono ?_
  rintro e w3 ⟨a3, c3, rfl, ho3, hb3⟩
  have n1 := m1.kept hb3
  have n2 := m2.kept hb3
  have e0 := n1.cell 0
  have e1 := n1.cell 1
  have e2 := n1.cell 2
  have e3 := n1.cell 3
  have e4 := n1.cell 4
  have d0 := n2.cell 0
  have d1 := n2.cell 1
  have d2 := n2.cell 2
  have d3 := n2.cell 3
  have d4 := n2.cell 4
  have f1 := n1.frozen
  have f2 := n2.frozen
  simp at e0 e1 e2 e3 e4 d0 d1 d2 d3 d4
  have hb4 := hb2.trans (hb3.mono hb2.size)
  have HO : Hid (∀ q u, q.block < V.heap.size → ∀ q0 u0, q0.block < V.heap.size → ∀ q1 u1, q1.block < V.heap.size → ∀ q2 u2, q2.block < V.heap.size → ∀ q3 u3, q3.block < V.heap.size → ∀ q4 u4, q4.block < V.heap.size → Pqh w.heap.size W2.heap.size ((((((w3.setCell q u).setCell q0 u0).setCell q1 u1).setCell q2 u2).setCell q3 u3).setCell q4 u4) a1 pn c1 ps ∧ ((((((w3.setCell q u).setCell q0 u0).setCell q1 u1).setCell q2 u2).setCell q3 u3).setCell q4 u4).ownsRow W2.heap.size 65 4 (.slice a3 nn c3) nn (FL (ns.map nrc))) := by
    intro q u h q0 u0 h0 q1 u1 h1 q2 u2 h2 q3 u3 h3 q4 u4 h4
    have g := fun {q : Addr} (h : q.block < V.heap.size) => Nat.lt_of_lt_of_le h hWW2
    exact ⟨((((((((Pqh.of ho2).belowh hb3).other q u h).other q0 u0 h0).other q1 u1 h1).other q2 u2 h2).other q3 u3 h3).other q4 u4 h4).base hL.size, own_other (own_other (own_other (own_other (own_other (own_other ho3 q u (g h)) q0 u0 (g h0)) q1 u1 (g h1)) q2 u2 (g h2)) q3 u3 (g h3)) q4 u4 (g h4)⟩
  have HF : Hid (∀ u u0 u1 u2 u3 u4, Below w.heap.size w ((((((w3.setCell ⟨w.heap.size + 1 + 1, 4, none⟩ u).setCell ⟨w.heap.size + 1, 0, none⟩ u0).setCell ⟨w.heap.size + 1, 1, none⟩ u1).setCell ⟨w.heap.size + 1, 2, none⟩ u2).setCell ⟨w.heap.size + 1, 3, none⟩ u3).setCell ⟨w.heap.size + 1, 4, none⟩ u4)) := fun u u0 u1 u2 u3 u4 =>
    (((((hb4.setCell (by simp; omega) _).setCell (by simp) _).setCell (by simp) _).setCell (by simp) _).setCell (by simp) _).setCell (by simp) _
  have HM : Hid (w.heap.size ≤ W2.heap.size ∧ W2.heap.size ≤ w3.heap.size) := ⟨by have := hL.size; omega, hb3.size⟩
  have K1 : Hid (Arr w3 (w.heap.size + 1) 32 [.int .i64 0, .int .i64 0, .int .i64 0, .slice none 0 0, .slice none 0 0]) := n1
  clear hb4 ho2 ho3 hb3 hb2 m1 m2 hL n1 n2
  go_wp2
  have K2 : Arr w3 (w.heap.size + 1) 32 [.int .i64 0, .int .i64 0, .int .i64 0, .slice none 0 0, .slice none 0 0] := K1.out
  have n3 := (((((K2.other ⟨w.heap.size + 1 + 1, 4, none⟩ (.slice a3 nn c3) (by simp)).set 0 (.int .i64 d)).set 1 (.int .i64 n)).set 2 (.int .i64 f)).set 3 (.slice a1 pn c1)).set 4 (.slice a3 nn c3)
  have H := HO.out ⟨w.heap.size + 1 + 1, 4, none⟩ (.slice a3 nn c3) (by simp; omega) ⟨w.heap.size + 1, 0, none⟩ (.int .i64 d) (by simp; omega) ⟨w.heap.size + 1, 1, none⟩ (.int .i64 n) (by simp; omega) ⟨w.heap.size + 1, 2, none⟩ (.int .i64 f) (by simp; omega) ⟨w.heap.size + 1, 3, none⟩ (.slice a1 pn c1) (by simp; omega) ⟨w.heap.size + 1, 4, none⟩ (.slice a3 nn c3) (by simp; omega)
  exact bodyPost_ret (results_cell_row rfl _ _ (w.heap.size + 1) 32 _ (0, 0) _ rfl n3 Tryd.underlying32 rfl (by kernel_rfl)) rfl ⟨a1, c1, a3, c3, W2.heap.size, rfl, H.1, Rq.new H.2, HM.out.1, by simpa using HM.out.2, HF.out _ _ _ _ _ _⟩
theorem markBundleC (lo mid hi : Nat) (d n f : Int) (pa : Option Addr) (pn pc : Nat) (na : Option Addr) (nn nc : Nat) (ps : List PartM) (l : List Rc) (k0 : Int) (w : World) (hP : Pqh lo mid w pa pn pc ps) (hN : Rq w mid hi 65 (.slice na nn nc) nn l) (h1 : lo ≤ mid) (h2 : mid ≤ hi) (hp : PqSm pn ps) (hn : nn ≤ 1048576) (h0 : 0 ≤ k0) (hk : k0 ≤ 10000) :
    Calls Tryd.prog 13 #[bunV d n f pa pn pc na nn nc, .int .i64 k0] w fun e w' => ∃ x : Int, e = .returned (.int .i64 x) ∧ 0 ≤ x ∧ Chg w w' lo hi := by
  obtain ⟨V, hV⟩ : ∃ V, V = w.alloc (.cells #[.int .i64 d, .int .i64 n, .int .i64 f, .slice pa pn pc, .slice na nn nc] 32) := ⟨_, rfl⟩
  have B : Below w.heap.size w V := by rw [hV]; exact (Below.refl _ _).alloc (Nat.le_refl _) _
  have A : Arr V w.heap.size 32 [.int .i64 d, .int .i64 n, .int .i64 f, .slice pa pn pc, .slice na nn nc] := by rw [hV]; exact Arr.new _ _ _
  have c3 := A.cell 3
  have c4 := A.cell 4
  simp at c3 c4
  have HP : Hid (Pqh lo mid V pa pn pc ps) := hP.belowh B
  have HN : Hid (Rq V mid hi 65 (.slice na nn nc) nn l) := hN.chg (.of_below B hi) (.inr (.inr (Nat.le_refl _)))
  have HC : Hid (Chg w V lo hi) := (Chg.of_below B lo).wide (Nat.le_refl _) (by omega)
  have hz := hN.z
  have HM : Hid (PqSm pn ps) := hp
  clear hP hN hp B
  go_enter Tryd.func13, Tryd.ntmps13
  go_wp2_with fail
  rw [← hV]
  clear hV
  refine Calls.mono (markPartSC lo mid pa pn pc ps k0 V HP.out HM.out h0 (by omega)) ?_
  rintro e w1 ⟨x, rfl, ⟨hx0, hx1⟩, hc⟩
  have HC1 : Hid (Chg w w1 lo hi) := chg_tr HC.out (hc.wide (Nat.le_refl _) h2)
  have HN1 : Hid (Rq w1 mid hi 65 (.slice na nn nc) nn l) := HN.out.chg hc (by omega)
  replace A := A.chg hc (by omega)
  clear c3 c4 hc HC HN HP
  have c3 := A.cell 3
  have c4 := A.cell 4
  simp at c3 c4
  go_wp2_with fail
  refine Calls.mono (markNeedSC mid nn _ x l w1 HN1.out.o hn hx0 (by omega)) ?_
  rintro e w2 ⟨rfl, o, g⟩
  have hc := HN1.out.gr g
  have HC2 : Hid (Chg w w2 lo hi) := chg_tr HC1.out (hc.wide h1 (Nat.le_refl _))
  clear o g hc HC1 HN1 c3 c4
  go_wp2
  go_ret
  exact ⟨_, rfl, by omega, HC2.out⟩
end Go.Proofs.YtgfjbaigmkdbcaaDoor

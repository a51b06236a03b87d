/-
  What is proved here: what the laws' markPartS does: it turns nothing but the row and the rows in it.
-/
import Derived.Test.YtofflhhlacdgfaaDoorJM20
namespace Go.Proofs.YtofflhhlacdgfaaDoor
open Go.RowKit
set_option maxRecDepth 100000
set_option maxHeartbeats 4000000
set_option linter.unusedVariables false

/-- A row as Pq, all of it below block hi. -/
structure Pqh (lo hi : Nat) (W : World) (a : Option Addr) (n c : Nat) (xs : List PartM) : Prop where
  len : xs.length = n
  cap : n ≤ c
  z : hi ≤ W.heap.size
  row : ∃ g l, a = some ⟨g, 0, none⟩ ∧ lo ≤ g ∧ g < hi ∧ W.ownsRow lo 45 4 (.slice a n c) n (QL l) ∧ (∀ q, q < n → ∃ b d, lg l q = part4 (xs.getD q pz) b d ∧ W.ownsRow (g + 1) 5 1 (.slice b (xs.getD q pz).h.length d) (xs.getD q pz).h.length (U8 (xs.getD q pz).h) ∧ In (.slice b (xs.getD q pz).h.length d) (g + 1) hi) ∧ ∀ q q', q < q' → q' < n → Apart (lg l q).d (lg l q').d
theorem Pqh.of {lo : Nat} {W : World} {a : Option Addr} {n c : Nat} {xs : List PartM} (h : Pq lo W a n c xs) : Pqh lo W.heap.size W a n c xs := by
  obtain ⟨h0, h1, g, l, rfl, h2, h3, h4, h5, h6⟩ := h
  refine ⟨h0, h1, Nat.le_refl _, g, l, rfl, h2, h3, h4, fun q hq => ?_, h6⟩
  obtain ⟨b, d, e, o⟩ := h5 q hq
  exact ⟨b, d, e, o, In.of o⟩
theorem Pqh.q {lo hi : Nat} {W : World} {a : Option Addr} {n c : Nat} {xs : List PartM} (h : Pqh lo hi W a n c xs) : Pq lo W a n c xs := by
  obtain ⟨h0, h1, hz, g, l, rfl, h2, h3, h4, h5, h6⟩ := h
  refine ⟨h0, h1, g, l, rfl, h2, by omega, h4, fun q hq => ?_, h6⟩
  obtain ⟨b, d, e, o, _⟩ := h5 q hq
  exact ⟨b, d, e, o⟩
theorem Pqh.chg {lo hi a' b' : Nat} {W W' : World} {a : Option Addr} {n c : Nat} {xs : List PartM} (h : Pqh lo hi W a n c xs) (hc : Chg W W' a' b') (hl : hi ≤ a' ∨ b' ≤ lo ∨ b' ≤ a') : Pqh lo hi W' a n c xs := by
  obtain ⟨h0, h1, hz, g, l, rfl, h2, h3, h4, h5, h6⟩ := h
  have ir : In (.slice (some ⟨g, 0, none⟩) n c) lo hi := fun k hk => by cases hk; exact ⟨h2, h3⟩
  by_cases hab : b' ≤ a'
  · have hc' : Chg W W' hi hi := ⟨hc.os, hc.tape, hc.output, hc.size, fun i hi _ => hc.block i hi (by omega)⟩
    refine ⟨h0, h1, Nat.le_trans hz hc.size, g, l, rfl, h2, h3, own_chg h4 ir hc' (by omega), fun q hq => ?_, h6⟩
    obtain ⟨b, d, e, o, i⟩ := h5 q hq
    exact ⟨b, d, e, own_chg o i hc' (by omega), i⟩
  · refine ⟨h0, h1, Nat.le_trans hz hc.size, g, l, rfl, h2, h3, own_chg h4 ir hc (by omega), fun q hq => ?_, h6⟩
    obtain ⟨b, d, e, o, i⟩ := h5 q hq
    exact ⟨b, d, e, own_chg o i hc (by omega), i⟩
theorem chg_r3 {w W : World} {lo hi g : Nat} (h : Chg w W lo hi) (h1 : lo ≤ g) (h2 : g < hi) (m : Nat) (a b c : Value) : Chg w (((W.setCell ⟨g, m, none⟩ a).setCell ⟨g, m + 1, none⟩ b).setCell ⟨g, m + 2, none⟩ c) lo hi :=
  ⟨h.os, h.tape, h.output, by simpa using h.size, fun i hi hj => by
    have e : ∀ (X : World) (q : Nat) (v : Value), (X.setCell ⟨g, q, none⟩ v).heap[i]? = X.heap[i]? := fun X q v => heap_setCell_other X ⟨g, q, none⟩ i v (fun h => by have e2 : i = g := h; omega)
    rw [e, e, e]
    exact h.block i hi hj⟩
theorem chg_tr {w W W' : World} {lo hi : Nat} (h : Chg w W lo hi) (h' : Chg W W' lo hi) : Chg w W' lo hi :=
  ⟨h'.os.trans h.os, h'.tape.trans h.tape, h'.output.trans h.output, Nat.le_trans h.size h'.size, fun i hi hj => (h'.block i (Nat.lt_of_lt_of_le hi h.size) hj).trans (h.block i hi hj)⟩
theorem own_r3 {W : World} {b e s n : Nat} {v : Value} {xs : List Value} (h : W.ownsRow b e s v n xs) {g : Nat} (hg : g < b) (m : Nat) (p q r : Value) :
    (((W.setCell ⟨g, m, none⟩ p).setCell ⟨g, m + 1, none⟩ q).setCell ⟨g, m + 2, none⟩ r).ownsRow b e s v n xs :=
  own_other (own_other (own_other h _ _ hg) _ _ hg) _ _ hg
theorem markPartSC (lo hi : Nat) (a : Option Addr) (n c : Nat) (xs : List PartM) (k0 : Int) (w : World) (h : Pqh lo hi w a n c xs) (hs : PqSm n xs) (h0 : 0 ≤ k0) (h1 : k0 ≤ 10000000) :
    Calls Tryd.prog 92 #[.slice a n c, .int .i64 k0] w fun e w' => ∃ x : Int, e = .returned (.int .i64 x) ∧ (0 ≤ x ∧ x ≤ 1099514773504 + k0) ∧ Chg w w' lo hi := by
  obtain ⟨hl, _, hz, g, l0, rfl, hg1, hg2, hown0, hall0, hap0⟩ := h
  have hn1 := hs.1
  have HI0 : Hid (∃ l, w.ownsRow lo 45 4 (.slice (some ⟨g, 0, none⟩) n c) n (QL l) ∧ (∀ q, q < n → ∃ b d ys, (lg l q).d = .slice b (xs.getD q pz).h.length d ∧ w.ownsRow (g + 1) 5 1 (.slice b (xs.getD q pz).h.length d) (xs.getD q pz).h.length (U8 ys) ∧ In (.slice b (xs.getD q pz).h.length d) (g + 1) hi) ∧ ∀ q q', q < q' → q' < n → Apart (lg l q).d (lg l q').d) :=
    ⟨l0, hown0, fun q hq => by
      obtain ⟨b, d, e, o, i⟩ := hall0 q hq
      exact ⟨b, d, _, by rw [e], o, i⟩, hap0⟩
  have HSm : Hid (PqSm n xs) := hs
  clear hown0 hall0 hap0 hs
  go_enter Tryd.func92, Tryd.ntmps92
  go_wp2
  go_loopw [1, 5] (fun m i wr => ∃ j : Nat, j ≤ n ∧ i = .int .i64 j ∧ (∃ r : Int, m = .int .i64 r ∧ 0 ≤ r ∧ r ≤ k0 + 1048579 * (j : Int)) ∧ Hid (∃ l, wr.ownsRow lo 45 4 (.slice (some ⟨g, 0, none⟩) n c) n (QL l) ∧ (∀ q, q < n → ∃ b d ys, (lg l q).d = .slice b (xs.getD q pz).h.length d ∧ wr.ownsRow (g + 1) 5 1 (.slice b (xs.getD q pz).h.length d) (xs.getD q pz).h.length (U8 ys) ∧ In (.slice b (xs.getD q pz).h.length d) (g + 1) hi) ∧ ∀ q q', q < q' → q' < n → Apart (lg l q).d (lg l q').d) ∧ Chg w wr lo hi) (fun _ i _ => n - (intOf i).toNat)
  case atStart => exact ⟨0, Nat.zero_le _, rfl, ⟨_, rfl, by omega, by omega⟩, HI0.out, ⟨rfl, rfl, rfl, Nat.le_refl _, fun _ _ _ => rfl⟩⟩
  case round =>
    clear HI0
    obtain ⟨j, hj, rfl, ⟨r, rfl, hr0, hr1⟩, HI, hc⟩ := hrel
    by_cases hlt : j < n
    · obtain ⟨l, hown, hall, hap⟩ := HI.out
      obtain ⟨b, d, ys, e3, o, i⟩ := hall j hlt
      have hsm := HSm.out.2 j hlt
      obtain ⟨m, hm⟩ : ∃ m, m = (xs.getD j pz).h.length := ⟨_, rfl⟩
      rw [← hm] at e3 o i hsm
      obtain ⟨c0, c1, c2, c3⟩ := q4_at hown j hlt
      rw [e3] at c3
      have f0 := fun j => hown.frozenAt j
      have lS := (hown.lt g rfl).2
      have w1 : IntKind.i64.wrap (r + 1) = r + 1 := wr64 (by omega) (by omega)
      have w2 : IntKind.i64.wrap (r + 1 + 1) = r + 2 := by rw [show r + 1 + 1 = r + 2 by omega]; exact wr64 (by omega) (by omega)
      have w3 : IntKind.i64.wrap (r + 2 + 1) = r + 3 := by rw [show r + 2 + 1 = r + 3 by omega]; exact wr64 (by omega) (by omega)
      have HS : Hid _ := (((hown.stored (j * 4) (.int .i64 r)).1.stored (j * 4 + 1) (.int .i64 (r + 1))).1.stored (j * 4 + 2) (.int .i64 (r + 2))).1
      have HC : Hid _ := chg_r3 hc hg1 hg2 (j * 4) (.int .i64 r) (.int .i64 (r + 1)) (.int .i64 (r + 2))
      have HO : Hid _ := own_r3 o (Nat.lt_succ_self g) (j * 4) (.int .i64 r) (.int .i64 (r + 1)) (.int .i64 (r + 2))
      have HIn : Hid _ := i
      have HAL : Hid (∀ q, q < n → ∃ b d ys, (lg l q).d = .slice b (xs.getD q pz).h.length d ∧ (((wr.setCell ⟨g, j * 4, none⟩ (.int .i64 r)).setCell ⟨g, j * 4 + 1, none⟩ (.int .i64 (r + 1))).setCell ⟨g, j * 4 + 2, none⟩ (.int .i64 (r + 2))).ownsRow (g + 1) 5 1 (.slice b (xs.getD q pz).h.length d) (xs.getD q pz).h.length (U8 ys) ∧ In (.slice b (xs.getD q pz).h.length d) (g + 1) hi) := by
        intro q hq
        obtain ⟨b, d, ys, e, o, i⟩ := hall q hq
        exact ⟨b, d, ys, e, own_r3 o (Nat.lt_succ_self g) (j * 4) (.int .i64 r) (.int .i64 (r + 1)) (.int .i64 (r + 2)), i⟩
      have HAp : Hid _ := hap
      have HE : Hid _ := e3
      have HM : Hid _ := hm
      have hll := q4_len hown
      have HLL : Hid (l.length = n) := hll
      clear hll hown hall hap o i hc hm e3 HI
      go_wp2_with fail
      refine (markB (g + 1) m _ (r + 3) ys _ HO.out (by omega) (by omega) (by omega)).mono ?_
      rintro e w5 ⟨rfl, o5, g5⟩
      obtain ⟨W4, hW4⟩ : ∃ W4, W4 = (((wr.setCell ⟨g, j * 4, none⟩ (.int .i64 r)).setCell ⟨g, j * 4 + 1, none⟩ (.int .i64 (r + 1))).setCell ⟨g, j * 4 + 2, none⟩ (.int .i64 (r + 2))) := ⟨_, rfl⟩
      rw [← hW4] at HS HC HO HAL g5
      have HC5 : Hid (Chg w w5 lo hi) := chg_tr HC.out (Chg.of_grown g5 (fun k hk => by have := HIn.out k hk; omega))
      have HI5 : Hid (∃ l, w5.ownsRow lo 45 4 (.slice (some ⟨g, 0, none⟩) n c) n (QL l) ∧ (∀ q, q < n → ∃ b d ys, (lg l q).d = .slice b (xs.getD q pz).h.length d ∧ w5.ownsRow (g + 1) 5 1 (.slice b (xs.getD q pz).h.length d) (xs.getD q pz).h.length (U8 ys) ∧ In (.slice b (xs.getD q pz).h.length d) (g + 1) hi) ∧ ∀ q q', q < q' → q' < n → Apart (lg l q).d (lg l q').d) := by
        have hq4 : (lg l j).d = .slice b m d := HE.out
        refine ⟨l.set j ⟨.int .i64 r, .int .i64 (r + 1), .int .i64 (r + 2), .slice b m d⟩, ?_, fun q hq => ?_, fun q q' h1 h2 => ?_⟩
        · have hs : QL (l.set j ⟨.int .i64 r, .int .i64 (r + 1), .int .i64 (r + 2), .slice b m d⟩) = (((QL l).set (j * 4) (.int .i64 r)).set (j * 4 + 1) (.int .i64 (r + 1))).set (j * 4 + 2) (.int .i64 (r + 2)) := by
            rw [QL_set l j _ (by rw [HLL.out]; exact hlt)]
            dsimp only
            have hg := (QL_get l j (by rw [HLL.out]; exact hlt)).2.2.2
            rw [hq4] at hg
            apply List.ext_getElem?
            intro i
            by_cases e : i = j * 4 + 3
            · subst e
              have hlen : j * 4 + 3 < (QL l).length := (List.getElem?_eq_some_iff.1 hg).1
              rw [List.getElem?_set_self (by simpa using hlen), List.getElem?_set_ne (by omega), List.getElem?_set_ne (by omega), List.getElem?_set_ne (by omega), hg]
            · rw [List.getElem?_set_ne (by omega)]
          rw [hs]
          exact own_kept HS.out g5 (fun k h1 h2 => by have := HIn.out k h1; have e : g = k := Option.some.inj h2; omega)
        · rw [lg_set _ _ _ _ (by rw [HLL.out]; exact hlt)]
          split
          · next e => subst e; rw [← HM.out]; exact ⟨b, d, _, rfl, o5, HIn.out⟩
          · next e =>
            obtain ⟨b', d', ys', e', o', i'⟩ := HAL.out q hq
            refine ⟨b', d', ys', e', own_kept o' g5 ?_, i'⟩
            rw [← hq4, ← e']
            rcases Nat.lt_or_gt_of_ne e with h | h
            · exact (HAp.out q j h hlt).symm
            · exact HAp.out j q h hq
        · rw [lg_set _ _ _ _ (by rw [HLL.out]; exact hlt), lg_set _ _ _ _ (by rw [HLL.out]; exact hlt)]
          have := HAp.out q q' h1 h2
          by_cases e1 : q = j
          · subst e1
            rw [if_pos rfl, if_neg (by omega)]
            show Apart (.slice b m d) _
            rw [← hq4]
            exact this
          · by_cases e2 : q' = j
            · subst e2
              rw [if_neg e1, if_pos rfl]
              show Apart _ (.slice b m d)
              rw [← hq4]
              exact this
            · rw [if_neg e1, if_neg e2]
              exact this
      clear hW4 HS HC HO HAL g5 o5 HAp HE HIn c0 c1 c2 c3 f0
      go_wp2
      go_roundw
      case rel => exact ⟨j + 1, by omega, by go_num, ⟨_, rfl, by omega, by omega⟩, HI5, HC5.out⟩
      case measure => simp [intOf]; omega
    · have hkn : j = n := by omega
      subst hkn
      go_wp2
      go_ret
      exact ⟨r, rfl, ⟨hr0, by omega⟩, hc⟩
end Go.Proofs.YtofflhhlacdgfaaDoor

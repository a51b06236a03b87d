/-
  What is proved here: what the laws' markPartS and heldPartS do on parts whose sums are rows of their own, all apart: the marks stand, and nothing of another type has turned.
  What is proved here: what the laws' markBundle and heldBundle do on a bundle whose rows are owned, all apart.
  What is proved here: the exact law of BundleRead returns true at every argument, and writes into nothing that was there.
-/
import Derived.Test.YtofflhhlacdgfaaDoorRd3
import Derived.Test.YtofflhhlacdgfaaDoorP0m
import Derived.Test.YtofflhhlacdgfaaDoorJM5
import Derived.Test.YtofflhhlacdgfaaDoorJM20
import Derived.Test.YtofflhhlacdgfaaDoorY4
import Derived.Test.YtofflhhlacdgfaaDoorRs3
import Derived.Test.YtofflhhlacdgfaaDoorS0
namespace Go.Proofs.YtofflhhlacdgfaaDoor
open Go.RowKit
set_option maxRecDepth 100000
set_option maxHeartbeats 4000000
set_option linter.unusedVariables false

/-- The first j parts bear their marks. -/
def MkS (lo hi : Nat) (W : World) (g cap n : Nat) (k0 : Int) (j : Nat) : Prop := ∃ l : List L4, W.ownsRow lo 45 4 (.slice (some ⟨g, 0, none⟩) n cap) n (QL l) ∧
  (∀ q, q < n → ∃ b d ys, (lg l q).d = .slice b 32 d ∧ W.ownsRow lo 5 1 (.slice b 32 d) 32 (U8 ys) ∧ In (.slice b 32 d) lo hi ∧ (q < j → lg l q = ⟨.int .i64 (k0 + 35 * (q : Int)), .int .i64 (k0 + 35 * (q : Int) + 1), .int .i64 (k0 + 35 * (q : Int) + 2), .slice b 32 d⟩ ∧ ys = marks (k0 + 35 * (q : Int) + 3) 32)) ∧
  ∀ q q', q < q' → q' < n → Apart (lg l q).d (lg l q').d
/-- Blocks of other types stay. -/
def OtT (W W' : World) : Prop := ∀ (i : Nat) (cur : Array Value) (t : Nat) (z : Nat × Nat), t ≠ 5 → t ≠ 45 → W.heap[i]? = some (Obj.cells cur t z) → W'.heap[i]? = some (Obj.cells cur t z)
theorem OtT.refl (W : World) : OtT W W := fun _ _ _ _ _ _ h => h
theorem OtT.trans {A B C : World} (h : OtT A B) (k : OtT B C) : OtT A C := fun i cur t z h5 hp o => k i cur t z h5 hp (h i cur t z h5 hp o)
theorem own_blk {W : World} {lo t s n k : Nat} {v : Value} {xs : List Value} (o : W.ownsRow lo t s v n xs) (hk : v.ownBlock = some k) : ∃ cur, W.heap[k]? = some (.cells cur t (0, 0)) := by
  rcases o.2 with ⟨rfl, _⟩ | ⟨g, cap, cur, rfl, _, hg, _⟩
  · cases hk
  · cases hk
    exact ⟨cur, hg⟩
theorem OtT.grown {W W' : World} {lo t s n : Nat} {v : Value} {xs : List Value} (o : W.ownsRow lo t s v n xs) (ht : t = 5 ∨ t = 45) (hg : W.grownBy W' v.ownBlock) : OtT W W' := by
  intro i cur t' z h5 hp h
  have hne : ¬ (some i = v.ownBlock) := fun e => by
    obtain ⟨cur', h'⟩ := own_blk o e.symm
    rw [h] at h'
    simp only [Option.some.injEq, Obj.cells.injEq] at h'
    rcases ht with rfl | rfl
    · exact h5 h'.2.1
    · exact hp h'.2.1
  rw [hg.block i (Array.getElem?_eq_some_iff.1 h).1 hne]
  exact h
theorem OtT.set {W : World} {lo m g cap j : Nat} {u : Value} {ys : List Value} (o : W.ownsRow lo 45 4 (.slice (some ⟨g, 0, none⟩) m cap) m ys) : OtT W (W.setCell ⟨g, j, none⟩ u) := OtT.grown o (.inr rfl) (cur_grown2 W g u j)
theorem OtT.own {W W' : World} (h : OtT W W') {lo t s n : Nat} {v : Value} {xs : List Value} (o : W.ownsRow lo t s v n xs) (h5 : t ≠ 5) (hp : t ≠ 45) : W'.ownsRow lo t s v n xs := by
  refine ⟨o.1, ?_⟩
  rcases o.2 with hn | ⟨g, cap, cur, rfl, hb, hg, rest⟩
  · exact .inl hn
  · exact .inr ⟨g, cap, cur, rfl, hb, h g cur t (0, 0) h5 hp hg, rest⟩
theorem OtT.arr {W W' : World} (h : OtT W W') {g t : Nat} {cs : List Value} (A : Arr W g t cs) (h5 : t ≠ 5) (hp : t ≠ 45) : Arr W' g t cs := h g _ t (0, 0) h5 hp A
theorem own_nrow {W : World} {lo lo' s n m g cap : Nat} {v u : Value} {xs ys : List Value} {j t : Nat} (k : W.ownsRow lo t s v n xs) (h : W.ownsRow lo' 45 4 (.slice (some ⟨g, 0, none⟩) m cap) m ys) (ht : 45 ≠ t) : (W.setCell ⟨g, j, none⟩ u).ownsRow lo t s v n xs :=
  k.kept (cur_grown2 W g u j) (own_ty h k ht)
theorem markPartsM (lo g cap n : Nat) (k0 : Int) (w : World) (h : MkS lo w.heap.size w g cap n k0 0) (hn : n ≤ 1000) (h0 : 0 ≤ k0) (h1 : k0 ≤ 10000) :
    Calls Tryd.prog 92 #[.slice (some ⟨g, 0, none⟩) n cap, .int .i64 k0] w fun e w' => e = .returned (.int .i64 (k0 + 35 * (n : Int))) ∧ MkS lo w.heap.size w' g cap n k0 n ∧ OtT w w' ∧ Chg w w' lo w.heap.size := by
  have hgl : lo ≤ g ∧ g < w.heap.size := by
    obtain ⟨l, o, _⟩ := h
    exact World.ownsRow.lt o g rfl
  obtain ⟨hg1, hg2⟩ := hgl
  have HI0 : Hid (MkS lo w.heap.size w g cap n k0 0) := h
  clear h
  go_enter Tryd.func92, Tryd.ntmps92
  go_wp2
  go_loopw [1, 5] (fun m i wr => ∃ j : Nat, j ≤ n ∧ i = .int .i64 j ∧ m = .int .i64 (k0 + 35 * (j : Int)) ∧ Hid (MkS lo w.heap.size wr g cap n k0 j) ∧ Hid (OtT w wr) ∧ Chg w wr lo w.heap.size) (fun _ i _ => n - (intOf i).toNat)
  case atStart => exact ⟨0, Nat.zero_le _, rfl, by simp, HI0, OtT.refl _, ⟨rfl, rfl, rfl, Nat.le_refl _, fun _ _ _ => rfl⟩⟩
  case round =>
    clear HI0
    obtain ⟨j, hj, rfl, rfl, HI, HT, hc⟩ := hrel
    by_cases hlt : j < n
    · obtain ⟨l, hown, hall, hap⟩ := HI.out
      obtain ⟨b, d, ys, e3, o, iIn, _⟩ := hall j hlt
      obtain ⟨r, hr⟩ : ∃ r : Int, r = k0 + 35 * (j : Int) := ⟨_, rfl⟩
      have hrn : k0 + 35 * ((j + 1 : Nat) : Int) = r + 3 + 32 := by omega
      rw [← hr]
      have hr0 : 0 ≤ r := by omega
      have hr1 : r ≤ 100000 := by omega
      have HR : Hid (r = k0 + 35 * (j : Int)) := hr
      have HRN : Hid (k0 + 35 * ((j + 1 : Nat) : Int) = r + 3 + 32) := hrn
      clear hr hrn
      obtain ⟨c0, c1, c2, c3⟩ := q4_at hown j hlt
      rw [e3] at c3
      have f0 := fun j => hown.frozenAt j
      have lS := (hown.lt g rfl).2
      have hltI : (j : Int) < (n : Int) := by omega
      have w1 : IntKind.i64.wrap (r + 1) = r + 1 := wr64 (by omega) (by omega)
      have w2 : IntKind.i64.wrap (r + 1 + 1) = r + 2 := by rw [show r + 1 + 1 = r + 2 by omega]; exact wr64 (by omega) (by omega)
      have w3 : IntKind.i64.wrap (r + 2 + 1) = r + 3 := by rw [show r + 2 + 1 = r + 3 by omega]; exact wr64 (by omega) (by omega)
      have wj : IntKind.i64.wrap ((j : Int) + 1) = (j : Int) + 1 := wr64 (by omega) (by omega)
      have HS : Hid _ := (((hown.stored (j * 4) (.int .i64 r)).1.stored (j * 4 + 1) (.int .i64 (r + 1))).1.stored (j * 4 + 2) (.int .i64 (r + 2))).1
      have HC : Hid _ := chg_r3 hc hg1 hg2 (j * 4) (.int .i64 r) (.int .i64 (r + 1)) (.int .i64 (r + 2))
      have s1 := (hown.stored (j * 4) (.int .i64 r)).1
      have s2 := (s1.stored (j * 4 + 1) (.int .i64 (r + 1))).1
      have keep : ∀ (lo' t s m : Nat) (v : Value) (zs : List Value), 45 ≠ t → wr.ownsRow lo' t s v m zs → (((wr.setCell ⟨g, j * 4, none⟩ (.int .i64 r)).setCell ⟨g, j * 4 + 1, none⟩ (.int .i64 (r + 1))).setCell ⟨g, j * 4 + 2, none⟩ (.int .i64 (r + 2))).ownsRow lo' t s v m zs := fun lo' t s m v zs ht k =>
        own_nrow (own_nrow (own_nrow k hown ht) s1 ht) s2 ht
      have HO : Hid _ := keep lo 5 1 32 (.slice b 32 d) (U8 ys) (by decide) o
      have HT1 : Hid (OtT w (((wr.setCell ⟨g, j * 4, none⟩ (.int .i64 r)).setCell ⟨g, j * 4 + 1, none⟩ (.int .i64 (r + 1))).setCell ⟨g, j * 4 + 2, none⟩ (.int .i64 (r + 2)))) := HT.out.trans (((OtT.set hown).trans (OtT.set s1)).trans (OtT.set s2))
      have HAL : Hid (∀ q, q < n → ∃ b d ys, (lg l q).d = .slice b 32 d ∧ (((wr.setCell ⟨g, j * 4, none⟩ (.int .i64 r)).setCell ⟨g, j * 4 + 1, none⟩ (.int .i64 (r + 1))).setCell ⟨g, j * 4 + 2, none⟩ (.int .i64 (r + 2))).ownsRow lo 5 1 (.slice b 32 d) 32 (U8 ys) ∧ In (.slice b 32 d) lo w.heap.size ∧ (q < j → lg l q = ⟨.int .i64 (k0 + 35 * (q : Int)), .int .i64 (k0 + 35 * (q : Int) + 1), .int .i64 (k0 + 35 * (q : Int) + 2), .slice b 32 d⟩ ∧ ys = marks (k0 + 35 * (q : Int) + 3) 32)) := by
        intro q hq
        obtain ⟨b, d, ys, e, o, i⟩ := hall q hq
        exact ⟨b, d, ys, e, keep lo 5 1 32 (.slice b 32 d) (U8 ys) (by decide) o, i⟩
      have HAp : Hid (∀ q q', q < q' → q' < n → Apart (lg l q).d (lg l q').d) := hap
      have HIn : Hid (In (.slice b 32 d) lo w.heap.size) := iIn
      have HE : Hid ((lg l j).d = .slice b 32 d) := e3
      have hll := q4_len hown
      have HLL : Hid (l.length = n) := hll
      clear hll hown hall hap o hc e3 HI s1 s2 keep HT iIn
      go_wp2_with fail
      refine (markB lo 32 _ (r + 3) ys _ HO.out (by omega) (by omega) (by omega)).mono ?_
      rintro e w5 ⟨rfl, o5, g5⟩
      obtain ⟨W4, hW4⟩ : ∃ W4, W4 = (((wr.setCell ⟨g, j * 4, none⟩ (.int .i64 r)).setCell ⟨g, j * 4 + 1, none⟩ (.int .i64 (r + 1))).setCell ⟨g, j * 4 + 2, none⟩ (.int .i64 (r + 2))) := ⟨_, rfl⟩
      rw [← hW4] at HS HC HO HAL HT1 g5
      have HT5 : Hid (OtT w w5) := HT1.out.trans (OtT.grown HO.out (.inl rfl) g5)
      have HC5 : Hid (Chg w w5 lo w.heap.size) := chg_tr HC.out (Chg.of_grown g5 (fun k hk => by have := HIn.out k hk; omega))
      have HI5 : Hid (MkS lo w.heap.size w5 g cap n k0 (j + 1)) := by
        have hq4 : (lg l j).d = .slice b 32 d := HE.out
        refine ⟨l.set j ⟨.int .i64 r, .int .i64 (r + 1), .int .i64 (r + 2), .slice b 32 d⟩, ?_, fun q hq => ?_, fun q q' h1 h2 => ?_⟩
        · have hs : QL (l.set j ⟨.int .i64 r, .int .i64 (r + 1), .int .i64 (r + 2), .slice b 32 d⟩) = (((QL l).set (j * 4) (.int .i64 r)).set (j * 4 + 1) (.int .i64 (r + 1))).set (j * 4 + 2) (.int .i64 (r + 2)) := by
            rw [QL_set l j _ (by rw [HLL.out]; exact hlt)]
            dsimp only
            have hg := (QL_get l j (by rw [HLL.out]; exact hlt)).2.2.2
            rw [hq4] at hg
            apply List.ext_getElem?
            intro i
            by_cases e : i = j * 4 + 3
            · subst e
              have hlen : j * 4 + 3 < (QL l).length := (List.getElem?_eq_some_iff.1 hg).1
              rw [List.getElem?_set_self (by simpa using hlen), List.getElem?_set_ne (by omega), List.getElem?_set_ne (by omega), List.getElem?_set_ne (by omega), hg]
            · rw [List.getElem?_set_ne (by omega)]
          rw [hs]
          exact World.ownsRow.kept HS.out g5 (own_ty HO.out HS.out (by decide))
        · rw [lg_set _ _ _ _ (by rw [HLL.out]; exact hlt)]
          split
          · next e =>
            subst e
            refine ⟨b, d, _, rfl, o5, HIn.out, fun _ => ⟨?_, ?_⟩⟩
            · rw [HR.out]
            · rw [HR.out]
          · next e =>
            obtain ⟨b', d', ys', e', o', i', m'⟩ := HAL.out q hq
            refine ⟨b', d', ys', e', own_kept o' g5 ?_, i', fun h => m' (by omega)⟩
            rw [← hq4, ← e']
            rcases Nat.lt_or_gt_of_ne e with h | h
            · exact (HAp.out q j h hlt).symm
            · exact HAp.out j q h hq
        · rw [lg_set _ _ _ _ (by rw [HLL.out]; exact hlt), lg_set _ _ _ _ (by rw [HLL.out]; exact hlt)]
          have := HAp.out q q' h1 h2
          by_cases e1 : q = j
          · subst e1
            rw [if_pos rfl, if_neg (by omega)]
            show Apart (.slice b 32 d) _
            rw [← hq4]
            exact this
          · by_cases e2 : q' = j
            · subst e2
              rw [if_neg e1, if_pos rfl]
              show Apart _ (.slice b 32 d)
              rw [← hq4]
              exact this
            · rw [if_neg e1, if_neg e2]
              exact this
      clear hW4 HS HC HO HAL g5 o5 HAp HE HIn c0 c1 c2 c3 f0 HT1
      go_wp2
      go_roundw
      case rel => exact ⟨j + 1, by omega, by go_num, by rw [HRN.out], HI5, HT5, HC5.out⟩
      case measure => simp [intOf]; omega
    · have hkn : j = n := by omega
      subst hkn
      go_wp2
      go_ret
      exact ⟨rfl, HI.out, HT.out, hc⟩
theorem heldPartsM (lo hi g cap n : Nat) (k0 : Int) (w : World) (h : MkS lo hi w g cap n k0 n) (hn : n ≤ 1000) (h0 : 0 ≤ k0) (h1 : k0 ≤ 10000) :
    Calls Tryd.prog 94 #[.slice (some ⟨g, 0, none⟩) n cap, .int .i64 k0] w fun e w' => e = .returned (.int .i64 (k0 + 35 * (n : Int))) ∧ w' = w := by
  obtain ⟨l, hown, hall, _⟩ := h
  have HH : Hid (∀ q, q < n → ∃ b d ys, (lg l q).d = .slice b 32 d ∧ w.ownsRow lo 5 1 (.slice b 32 d) 32 (U8 ys) ∧ In (.slice b 32 d) lo hi ∧ (q < n → lg l q = ⟨.int .i64 (k0 + 35 * (q : Int)), .int .i64 (k0 + 35 * (q : Int) + 1), .int .i64 (k0 + 35 * (q : Int) + 2), .slice b 32 d⟩ ∧ ys = marks (k0 + 35 * (q : Int) + 3) 32)) := hall
  clear hall
  go_enter Tryd.func94, Tryd.ntmps94
  go_wp2
  go_loopw [1, 5] (fun m i wr => wr = w ∧ ∃ j : Nat, j ≤ n ∧ i = .int .i64 j ∧ m = .int .i64 (k0 + 35 * (j : Int))) (fun _ i _ => n - (intOf i).toNat)
  case atStart => exact ⟨rfl, 0, Nat.zero_le _, rfl, by simp⟩
  case round =>
    obtain ⟨rfl, j, hj, rfl, rfl⟩ := hrel
    by_cases hlt : j < n
    · obtain ⟨b, d, ys, e3, o, _, hm⟩ := HH.out j hlt
      obtain ⟨em, ey⟩ := hm hlt
      subst ey
      obtain ⟨r, hr⟩ : ∃ r : Int, r = k0 + 35 * (j : Int) := ⟨_, rfl⟩
      have hrn : k0 + 35 * ((j + 1 : Nat) : Int) = r + 3 + 32 := by omega
      rw [← hr] at em o ⊢
      have hr0 : 0 ≤ r := by omega
      have hr1 : r ≤ 100000 := by omega
      have HRN : Hid (k0 + 35 * ((j + 1 : Nat) : Int) = r + 3 + 32) := hrn
      clear hr hrn
      obtain ⟨c0, c1, c2, c3⟩ := q4_at hown j hlt
      rw [em] at c0 c1 c2 c3
      dsimp only at c0 c1 c2 c3
      have hltI : (j : Int) < (n : Int) := by omega
      have w1 : IntKind.i64.wrap (r + 1) = r + 1 := wr64 (by omega) (by omega)
      have w2 : IntKind.i64.wrap (r + 1 + 1) = r + 2 := by rw [show r + 1 + 1 = r + 2 by omega]; exact wr64 (by omega) (by omega)
      have w3 : IntKind.i64.wrap (r + 2 + 1) = r + 3 := by rw [show r + 2 + 1 = r + 3 by omega]; exact wr64 (by omega) (by omega)
      have wj : IntKind.i64.wrap ((j : Int) + 1) = (j : Int) + 1 := wr64 (by omega) (by omega)
      have hbs : Bs wr b 32 d (marks (r + 3) 32) := by
        obtain ⟨b', d', e', hc, hb'⟩ := Bs.own o (marks_byte _ _)
        injection e' with e1 e2 e4
        rw [e1, e4]
        exact hb'
      have HB : Hid (Bs wr b 32 d (marks (r + 3) 32)) := hbs
      have hk : ¬ (r + 3 + 32 < 0) := by omega
      clear hbs em e3 o hm
      go_wp2_with fail
      refine (heldB b 32 d (r + 3) _ HB.out (by omega) (by omega) (by omega)).mono ?_
      rintro e w1 ⟨rfl, hw⟩
      rw [hw]
      clear hw HB
      go_wp2
      go_roundw
      case rel => exact ⟨trivial, j + 1, by omega, by go_num, by rw [HRN.out]⟩
      case measure => simp [intOf]; omega
    · have hkn : j = n := by omega
      subst hkn
      go_wp2
      go_ret
      exact ⟨rfl, rfl⟩
end Go.Proofs.YtofflhhlacdgfaaDoor
namespace Go.Proofs.YtofflhhlacdgfaaDoor
open Go.RowKit
set_option maxRecDepth 100000
set_option maxHeartbeats 4000000
set_option linter.unusedVariables false

theorem mks_of {W : World} {lo g cap n : Nat} {ll : List L4} {l : List PartM} {k0 : Int} (o : W.ownsRow lo 45 4 (.slice (some ⟨g, 0, none⟩) n cap) n (QL ll)) (P : Prts lo W ll l) (hl : l.length = n) : MkS lo W.heap.size W g cap n k0 0 := by
  refine ⟨ll, o, fun q hq => ?_, fun q q' h h' => P.2.2 q q' h (by omega)⟩
  obtain ⟨a, c, e, o'⟩ := P.2.1 q (by omega)
  exact ⟨a, c, _, by rw [e], o', In.of o', fun h => absurd h (by omega)⟩
theorem MkS.below {W W' : World} {lo hi g cap n j : Nat} {k0 : Int} (h : MkS lo hi W g cap n k0 j) (hb : Below W.heap.size W W') : MkS lo hi W' g cap n k0 j := by
  obtain ⟨l, o, ha, hp⟩ := h
  refine ⟨l, own_below o hb, fun q hq => ?_, hp⟩
  obtain ⟨b, d, ys, e, o', i, m⟩ := ha q hq
  exact ⟨b, d, ys, e, own_below o' hb, i, m⟩
/-- The bundle bears its marks. -/
def MkB (lo : Nat) (W : World) (pa : Option Addr) (pn pc : Nat) (na : Option Addr) (nn nc : Nat) (k0 : Int) : Prop :=
  (pn = 0 ∨ ∃ g hi, pa = some ⟨g, 0, none⟩ ∧ MkS lo hi W g pc pn k0 pn) ∧ W.ownsRow lo 41 4 (.slice na nn nc) nn (FL (mkR (k0 + 35 * (pn : Int)) nn))
theorem MkB.below {lo pn pc nn nc : Nat} {W W' : World} {pa na : Option Addr} {k0 : Int} (h : MkB lo W pa pn pc na nn nc k0) (hb : Below W.heap.size W W') : MkB lo W' pa pn pc na nn nc k0 :=
  ⟨h.1.imp id (fun ⟨g, hi, e, m⟩ => ⟨g, hi, e, m.below hb⟩), own_below h.2 hb⟩
theorem markPartsE (pa : Option Addr) (pc : Nat) (k0 : Int) (w : World) : Calls Tryd.prog 92 #[.slice pa 0 pc, .int .i64 k0] w fun e w' => e = .returned (.int .i64 k0) ∧ w' = w := by
  go_enter Tryd.func92, Tryd.ntmps92
  go_wp2
  go_loop [5, 1] (fun i m => i = .int .i64 0 ∧ m = .int .i64 k0) (fun i _ => 0)
  case atStart => exact ⟨rfl, rfl⟩
  case round =>
    obtain ⟨rfl, rfl⟩ := hrel
    go_wp2
    go_ret
    exact ⟨rfl, rfl⟩
theorem heldPartsE (pa : Option Addr) (pc : Nat) (k0 : Int) (w : World) : Calls Tryd.prog 94 #[.slice pa 0 pc, .int .i64 k0] w fun e w' => e = .returned (.int .i64 k0) ∧ w' = w := by
  go_enter Tryd.func94, Tryd.ntmps94
  go_wp2
  go_loop [5, 1] (fun i m => i = .int .i64 0 ∧ m = .int .i64 k0) (fun i _ => 0)
  case atStart => exact ⟨rfl, rfl⟩
  case round =>
    obtain ⟨rfl, rfl⟩ := hrel
    go_wp2
    go_ret
    exact ⟨rfl, rfl⟩
theorem markPartsA (lo : Nat) (pa : Option Addr) (pn pc : Nat) (ll : List L4) (l : List PartM) (k0 : Int) (w : World) (o : w.ownsRow lo 45 4 (.slice pa pn pc) pn (QL ll)) (P : Prts lo w ll l) (hl : l.length = pn) (hn : pn ≤ 1000) (h0 : 0 ≤ k0) (h1 : k0 ≤ 10000) :
    Calls Tryd.prog 92 #[.slice pa pn pc, .int .i64 k0] w fun e w' => e = .returned (.int .i64 (k0 + 35 * (pn : Int))) ∧ (pn = 0 ∨ ∃ g hi, pa = some ⟨g, 0, none⟩ ∧ MkS lo hi w' g pc pn k0 pn) ∧ OtT w w' ∧ Chg w w' lo w.heap.size := by
  by_cases hz : pn = 0
  · subst hz
    refine (markPartsE pa pc k0 w).mono ?_
    rintro e w' ⟨rfl, rfl⟩
    exact ⟨by simp, .inl rfl, OtT.refl _, ⟨rfl, rfl, rfl, Nat.le_refl _, fun _ _ _ => rfl⟩⟩
  · rcases o.2 with ⟨_, h⟩ | ⟨g, cap, cur, e, _⟩
    · exact absurd h hz
    · injection e with e1 e2 e3
      subst e1
      subst e3
      refine (markPartsM lo g pc pn k0 w (mks_of o P hl) hn h0 h1).mono ?_
      rintro e w' ⟨rfl, hm, ht, hc⟩
      exact ⟨rfl, .inr ⟨g, _, rfl, hm⟩, ht, hc⟩
theorem heldPartsA (lo : Nat) (pa : Option Addr) (pn pc : Nat) (k0 : Int) (w : World) (h : pn = 0 ∨ ∃ g hi, pa = some ⟨g, 0, none⟩ ∧ MkS lo hi w g pc pn k0 pn) (hn : pn ≤ 1000) (h0 : 0 ≤ k0) (h1 : k0 ≤ 10000) :
    Calls Tryd.prog 94 #[.slice pa pn pc, .int .i64 k0] w fun e w' => e = .returned (.int .i64 (k0 + 35 * (pn : Int))) ∧ w' = w := by
  rcases h with rfl | ⟨g, hi, rfl, hm⟩
  · refine (heldPartsE pa pc k0 w).mono ?_
    rintro e w' ⟨rfl, rfl⟩
    exact ⟨by simp, rfl⟩
  · exact heldPartsM lo hi g pc pn k0 w hm hn h0 h1
/-- Blocks that are neither bytes nor parts nor needs stay. -/
def OtN (W W' : World) : Prop := ∀ (i : Nat) (cur : Array Value) (t : Nat) (z : Nat × Nat), t ≠ 5 → t ≠ 45 → t ≠ 41 → W.heap[i]? = some (Obj.cells cur t z) → W'.heap[i]? = some (Obj.cells cur t z)
theorem OtN.arr {W W' : World} (h : OtN W W') {g t : Nat} {cs : List Value} (A : Arr W g t cs) (h5 : t ≠ 5) (hp : t ≠ 45) (hn : t ≠ 41) : Arr W' g t cs := h g _ t (0, 0) h5 hp hn A
theorem OtN.make {w V w1 w2 : World} {lo n : Nat} {v : Value} {xs : List Value} (hB : Below w.heap.size w V) (ht : OtT V w1) (o : w1.ownsRow lo 41 4 v n xs) (g : w1.grownBy w2 v.ownBlock) : OtN w w2 := by
  intro i cur t z h5 hp hn h
  have h1 := ht i cur t z h5 hp ((hB.block i (Array.getElem?_eq_some_iff.1 h).1).trans h)
  have hne : ¬ (some i = v.ownBlock) := fun e => by
    obtain ⟨cur', h'⟩ := own_blk o e.symm
    rw [h1] at h'
    simp only [Option.some.injEq, Obj.cells.injEq] at h'
    exact hn h'.2.1
  rw [g.block i (Array.getElem?_eq_some_iff.1 h1).1 hne]
  exact h1
theorem markBundleM (lo : Nat) (d n f : Int) (pa : Option Addr) (pn pc : Nat) (na : Option Addr) (nn nc : Nat) (ll : List L4) (l : List PartM) (ns : List Rc) (w : World) (o : w.ownsRow lo 45 4 (.slice pa pn pc) pn (QL ll)) (P : Prts lo w ll l) (hl : l.length = pn) (oN : w.ownsRow lo 41 4 (.slice na nn nc) nn (FL ns)) (hlo : lo ≤ w.heap.size) (hn : pn ≤ 8) (hm : nn ≤ 9) :
    Calls Tryd.prog 37 #[bunV d n f pa pn pc na nn nc, .int .i64 1] w fun e w' => e = .returned (.int .i64 (1 + 35 * (pn : Int) + 4 * (nn : Int))) ∧ MkB lo w' pa pn pc na nn nc 1 ∧ Chg w w' lo w.heap.size ∧ OtN w w' := by
  obtain ⟨V, hV⟩ : ∃ V, V = w.alloc (.cells #[.int .i64 d, .int .i64 n, .int .i64 f, .slice pa pn pc, .slice na nn nc] 26) := ⟨_, rfl⟩
  have B : Below w.heap.size w V := by rw [hV]; exact (Below.refl _ _).alloc (Nat.le_refl _) _
  have A : Arr V w.heap.size 26 [.int .i64 d, .int .i64 n, .int .i64 f, .slice pa pn pc, .slice na nn nc] := by rw [hV]; exact Arr.new _ _ _
  have c3 := A.cell 3
  have c4 := A.cell 4
  simp at c3 c4
  have HL : Hid (l.length = pn) := hl
  have HO : Hid (V.ownsRow lo 45 4 (.slice pa pn pc) pn (QL ll)) := own_below o B
  have HP : Hid (Prts lo V ll l) := P.below B
  have HN : Hid (V.ownsRow lo 41 4 (.slice na nn nc) nn (FL ns)) := own_below oN B
  have hIn : ∀ k, (Value.slice na nn nc).ownBlock = some k → lo ≤ k ∧ k < w.heap.size := fun k hk => World.ownsRow.lt oN k hk
  have HI : Hid (∀ k, (Value.slice na nn nc).ownBlock = some k → lo ≤ k ∧ k < w.heap.size) := hIn
  have HB : Hid (Below w.heap.size w V) := B
  have HA : Hid (Arr V w.heap.size 26 [.int .i64 d, .int .i64 n, .int .i64 f, .slice pa pn pc, .slice na nn nc]) := A
  clear o P oN hl B A hIn
  go_enter Tryd.func37, Tryd.ntmps37
  go_wp2_with fail
  rw [← hV]
  clear hV
  refine Calls.mono (markPartsA lo pa pn pc ll l 1 V HO.out HP.out HL.out (by omega) (by omega) (by omega)) ?_
  rintro e w1 ⟨rfl, hmk, ht, hc⟩
  have HTt : Hid (OtT V w1) := ht
  have A1 := ht.arr HA.out (by decide) (by decide)
  have HN1 : Hid (w1.ownsRow lo 41 4 (.slice na nn nc) nn (FL ns)) := ht.own HN.out (by decide) (by decide)
  have HM1 : Hid (pn = 0 ∨ ∃ g hi, pa = some ⟨g, 0, none⟩ ∧ MkS lo hi w1 g pc pn 1 pn) := hmk
  have HC1 : Hid (Chg w w1 lo w.heap.size) := ⟨hc.os.trans HB.out.os, hc.tape.trans HB.out.tape, hc.output.trans HB.out.output, Nat.le_trans HB.out.size hc.size, fun i hi hj => (hc.block i (Nat.lt_of_lt_of_le hi HB.out.size) (by omega)).trans (HB.out.block i hi)⟩
  clear c3 c4 hmk ht hc HA HN HO HP
  have c3 := A1.cell 3
  have c4 := A1.cell 4
  simp at c3 c4
  clear A1
  go_wp2_with fail
  refine Calls.mono (markNeedSC lo nn _ (1 + 35 * (pn : Int)) ns w1 HN1.out (by omega) (by omega) (by omega)) ?_
  rintro e w2 ⟨rfl, o2, g2⟩
  have HK : Hid (MkB lo w2 pa pn pc na nn nc 1) := ⟨HM1.out.imp id (fun ⟨g, hi, e, m⟩ => ⟨g, hi, e, by
    obtain ⟨q, oq, ha, hp⟩ := m
    refine ⟨q, oq.kept g2 (own_ty HN1.out oq (by decide)), fun r hr => ?_, hp⟩
    obtain ⟨b, d, ys, e', o', i', m'⟩ := ha r hr
    exact ⟨b, d, ys, e', o'.kept g2 (own_ty HN1.out o' (by decide)), i', m'⟩⟩), o2⟩
  have HC2 : Hid (Chg w w2 lo w.heap.size) := chg_tr HC1.out ⟨g2.os, g2.tape, g2.output, g2.size, fun i hi hj => g2.block i hi (fun e => by have := HI.out i e.symm; omega)⟩
  have HOt : Hid (OtN w w2) := OtN.make HB.out HTt.out HN1.out g2
  clear o2 g2 HC1 HN1 HM1 c3 c4 HTt
  go_wp2
  go_ret
  exact ⟨rfl, HK.out, HC2.out, HOt.out⟩
theorem heldBundleM (lo : Nat) (d n f : Int) (pa : Option Addr) (pn pc : Nat) (na : Option Addr) (nn nc : Nat) (w : World) (h : MkB lo w pa pn pc na nn nc 1) (hn : pn ≤ 8) (hm : nn ≤ 9) :
    Calls Tryd.prog 38 #[bunV d n f pa pn pc na nn nc, .int .i64 1] w fun e w' => e = .returned (.int .i64 (1 + 35 * (pn : Int) + 4 * (nn : Int))) ∧ Below w.heap.size w w' := by
  obtain ⟨V, hV⟩ : ∃ V, V = w.alloc (.cells #[.int .i64 d, .int .i64 n, .int .i64 f, .slice pa pn pc, .slice na nn nc] 26) := ⟨_, rfl⟩
  have B : Below w.heap.size w V := by rw [hV]; exact (Below.refl _ _).alloc (Nat.le_refl _) _
  have A : Arr V w.heap.size 26 [.int .i64 d, .int .i64 n, .int .i64 f, .slice pa pn pc, .slice na nn nc] := by rw [hV]; exact Arr.new _ _ _
  have c3 := A.cell 3
  have c4 := A.cell 4
  simp at c3 c4
  have HM : Hid (MkB lo V pa pn pc na nn nc 1) := h.below B
  have k1 : ¬ (1 + 35 * (pn : Int) < 0) := by omega
  have k2 : ¬ (1 + 35 * (pn : Int) + 4 * (nn : Int) < 0) := by omega
  clear A h
  go_enter Tryd.func38, Tryd.ntmps38
  go_upto_region 1 with fail
  rw [← hV]
  clear hV
  go_wp2_with fail
  refine Calls.mono (heldPartsA lo pa pn pc 1 V HM.out.1 (by omega) (by omega) (by omega)) ?_
  rintro e w1 ⟨rfl, hw⟩
  rw [hw]
  clear hw
  go_wp2_with fail
  refine Calls.mono (heldNeedSC na nn nc (1 + 35 * (pn : Int)) V (rs_of_own HM.out.2) (by omega) (by omega) (by omega)) ?_
  rintro e w2 ⟨rfl, hw⟩
  rw [hw]
  clear hw c3 c4 HM
  go_wp2
  go_ret
  exact ⟨rfl, B⟩
end Go.Proofs.YtofflhhlacdgfaaDoor
namespace Go.Proofs.YtofflhhlacdgfaaDoor
open Go.RowKit Ma
set_option maxRecDepth 100000
set_option maxHeartbeats 8000000
set_option linter.unusedVariables false

theorem rdB_at {xs : List Int} (hy : ByL xs) : (rdB xs).1.ps.length ≤ 4 ∧ (rdB xs).1.ns.length ≤ 8 ∧ ∀ x ∈ (rdB xs).1.ps, x.h.length = 32 ∧ ∀ y ∈ x.h, 0 ≤ y ∧ y < 256 := by
  cases hr : rbun xs with
  | none => rw [rdB_none hr]; exact ⟨by simp, by simp, fun x hx => by cases hx⟩
  | some a =>
    obtain ⟨B, q⟩ := a
    by_cases h : q = xs.length ∧ bOk B = true
    · rw [rdB_yes hr h.1 h.2]
      have := rbun_at hy hr
      exact ⟨this.2.1, this.2.2.1, this.2.2.2.1⟩
    · rw [rdB_no hr h]
      exact ⟨by simp, by simp, fun x hx => by cases hx⟩
theorem bel_chgR {w W W' : World} {B a b : Nat} (h : Below B w W) (hB : B ≤ w.heap.size) (hc : Chg W W' a b) (ha : B ≤ a) : Below B w W' :=
  ⟨hc.os.trans h.os, hc.tape.trans h.tape, hc.output.trans h.output, Nat.le_trans h.size hc.size, fun i hi => (hc.block i (Nat.lt_of_lt_of_le hi (Nat.le_trans hB h.size)) (by omega)).trans (h.block i hi)⟩
theorem own_gb {W W' : World} {lo e s n : Nat} {v u : Value} {xs : List Value} (h : W.ownsRow lo e s v n xs) (hv : ∀ k, u.ownBlock = some k → k < lo) (hg : W.grownBy W' u.ownBlock) : W'.ownsRow lo e s v n xs :=
  h.kept hg (by
    cases hx : v.ownBlock with
    | none => exact .inl rfl
    | some j => exact .inr (fun e => by have := hv j e.symm; have := (World.ownsRow.lt h j hx).1; omega))
theorem Prts.gb {W W' : World} {lo : Nat} {u : Value} {ll : List L4} {l : List PartM} (h : Prts lo W ll l) (hv : ∀ k, u.ownBlock = some k → k < lo) (hg : W.grownBy W' u.ownBlock) : Prts lo W' ll l := ⟨h.1, fun q hq => by
  obtain ⟨a, c, e, o⟩ := h.2.1 q hq
  exact ⟨a, c, e, own_gb o hv hg⟩, h.2.2⟩
theorem walk_fnExactBundleRead (w : World) (a : Option Addr) (n c : Nat) (xs : List Int) (hb : Bs w a n c xs) (hm : n ≤ 9223372036854775807) (he : Err w) :
    Calls Tryd.prog 7 #[.slice a n c] w fun e w' => e = .returned (.bool true) ∧ Below w.heap.size w w' := by
  have hy : ByL xs := hb.2.2.2.1
  have HX : Hid (∀ Z, Below w.heap.size w Z → Bs Z a n c xs) := fun Z hZ => hb.below hZ
  have HE : Hid (∀ Z, Below w.heap.size w Z → Err Z) := fun Z hZ => he.below hZ
  have B : Below w.heap.size w w := Below.refl _ _
  have hat := rdB_at hy
  have HS0 : Hid (n ≤ 1048576 → ∀ a' c' Z, Bs Z a' n c' xs → Calls Tryd.prog 32 #[.slice a' n c'] Z (RdAns xs Z)) := fun h a' c' Z hZ => specBundleRead a' n c' xs Z hZ h
  have HI0 : Hid (n ≤ 1048576 → ∀ a' c' Z, Bs Z a' n c' xs → Err Z → Calls Tryd.prog 15 #[.slice a' n c'] Z (RdAns xs Z)) := fun h a' c' Z hZ hE => implBundleRead a' n c' xs Z hZ h hE
  unfold RdAns at HS0 HI0
  generalize rdB xs = R at hat HS0 HI0
  obtain ⟨⟨d, nb, f, ps, ns⟩, ok⟩ := R
  dsimp only at hat HS0 HI0
  obtain ⟨pn, hpn⟩ : ∃ pn, pn = ps.length := ⟨_, rfl⟩
  obtain ⟨nn, hnn⟩ : ∃ nn, nn = ns.length := ⟨_, rfl⟩
  rw [← hpn, ← hnn] at hat HS0 HI0
  have HLp : Hid (ps.length = pn) := hpn.symm
  have HAt : Hid (∀ x ∈ ps, x.h.length = 32 ∧ ∀ y ∈ x.h, 0 ≤ y ∧ y < 256) := hat.2.2
  have hp4 := hat.1
  have hn8 := hat.2.1
  have HSm : Hid (PqSm pn ps) := ⟨by omega, fun q hq => by
    have hm : ps.getD q pz ∈ ps := by
      rw [List.getD_eq_getElem?_getD, List.getElem?_eq_getElem (by omega)]
      exact List.getElem_mem (by omega)
    have := (hat.2.2 _ hm).1
    omega⟩
  clear hb he hat hpn hnn
  go_enter Tryd.func7, Tryd.ntmps7
  by_cases hbig : (1048576 : Int) < (n : Int)
  · go_wp2
    go_ret
    exact ⟨rfl, B⟩
  have hn20 : n ≤ 1048576 := by omega
  have HS := HS0.out hn20
  have HI := HI0.out hn20
  clear HS0 HI0
  have HS : Hid _ := HS
  have HI : Hid _ := HI
  go_wp2_with fail
  refine (toB a n c xs _ (HX.out _ B) (by omega)).mono ?_
  rintro e w1 ⟨v, rfl, o, hb⟩
  obtain ⟨va, vc, rfl, _, hbs⟩ := Bs.own o hy
  replace B := B.trans (hb.mono B.size)
  clear o hb
  go_wp2_with fail
  refine Calls.mono (HS.out va vc w1 hbs) ?_
  rintro e w2 ⟨pa, pc, na, nc, ll, rfl, hO, hP, hN, hb⟩
  replace B := B.trans (hb.mono B.size)
  have hPs := ps_prts hO hP HLp.out HAt.out
  obtain ⟨_, _, en, hNs⟩ := ns_of hN
  injection en with en1 en2 en3
  subst en1
  subst en3
  obtain ⟨X3, hX3⟩ : ∃ Z, Z = w2.alloc (.cells #[.int .i64 d, .int .i64 nb, .int .i64 f, .slice pa pn pc, .slice na nn nc] 26) := ⟨_, rfl⟩
  have A3 : Arr X3 w2.heap.size 26 [.int .i64 d, .int .i64 nb, .int .i64 f, .slice pa pn pc, .slice na nn nc] := by rw [hX3]; exact Arr.new _ _ _
  have bX : Below w2.heap.size w2 X3 := by rw [hX3]; exact (Below.refl _ _).alloc (Nat.le_refl _) _
  have B3 := B.trans (bX.mono B.size)
  obtain ⟨F3, hF3⟩ : ∃ F, F = w2.heap.size := ⟨_, rfl⟩
  rw [← hF3] at A3
  have HW : Hid (∀ Z, Below X3.heap.size X3 Z → Ps Z pa pn pc ps ∧ Ns Z na nn nc ns) := fun Z hZ => ⟨(hPs.below bX).below hZ, (hNs.below bX).below hZ⟩
  have HA3 : Hid (∀ Z, Below X3.heap.size X3 Z → Arr Z F3 26 [.int .i64 d, .int .i64 nb, .int .i64 f, .slice pa pn pc, .slice na nn nc]) := fun Z hZ => A3.kept hZ
  have HBw : Hid (∀ Z, Below X3.heap.size X3 Z → Below w.heap.size w Z) := fun Z hZ => B3.trans (hZ.mono B3.size)
  have hF3' : F3 < X3.heap.size := A3.lt
  go_upto_region 4 with fail
  rw [← hX3]
  rw [← hF3]
  have D : Below X3.heap.size X3 X3 := Below.refl _ _
  clear hX3 hF3 hbs hO hP hN hb B bX B3 A3 hPs hNs HS
  go_wp2_with fail
  refine (toB a n c xs _ (HX.out _ (HBw.out _ D)) (by omega)).mono ?_
  rintro e w4 ⟨v, rfl, ox, hb⟩
  obtain ⟨xa, xc, rfl, _, hbs⟩ := Bs.own ox hy
  replace D := D.trans (hb.mono D.size)
  have z4 := D.size
  clear hb
  go_wp2_with fail
  refine Calls.mono (HI.out xa xc w4 hbs (HE.out _ (HBw.out _ D))) ?_
  rintro e w5 ⟨ga, gc, ka, kc, lg5, rfl, hO, hP, hN, hb⟩
  obtain ⟨L4, hL4⟩ : ∃ L, L = w4.heap.size := ⟨_, rfl⟩
  rw [← hL4] at hO hP hN z4
  replace D := D.trans (hb.mono D.size)
  have ox5 := own_below ox hb
  have hxl : ∀ k, (Value.slice xa n xc).ownBlock = some k → X3.heap.size ≤ k ∧ k < L4 := fun k hk => by have := World.ownsRow.lt ox k hk; omega
  have HXl : Hid (∀ k, (Value.slice xa n xc).ownBlock = some k → X3.heap.size ≤ k ∧ k < L4) := hxl
  have zL : L4 ≤ w5.heap.size := by have := hb.size; omega
  obtain ⟨X6, hX6⟩ : ∃ Z, Z = w5.alloc (.cells #[.int .i64 d, .int .i64 nb, .int .i64 f, .slice ga pn gc, .slice ka nn kc] 26) := ⟨_, rfl⟩
  have A6 : Arr X6 w5.heap.size 26 [.int .i64 d, .int .i64 nb, .int .i64 f, .slice ga pn gc, .slice ka nn kc] := by rw [hX6]; exact Arr.new _ _ _
  have bX : Below w5.heap.size w5 X6 := by rw [hX6]; exact (Below.refl _ _).alloc (Nat.le_refl _) _
  replace D := D.trans (bX.mono D.size)
  obtain ⟨F6, hF6⟩ : ∃ F, F = w5.heap.size := ⟨_, rfl⟩
  rw [← hF6] at A6 zL
  have HGO : Hid (X6.ownsRow L4 45 4 (.slice ga pn gc) pn (QL lg5)) := own_below hO bX
  have HGP : Hid (Prts L4 X6 lg5 ps) := hP.below bX
  have HGN : Hid (X6.ownsRow L4 41 4 (.slice ka nn kc) nn (FL (ns.map nrc))) := own_below hN bX
  have HXr : Hid (X6.ownsRow X3.heap.size 5 1 (.slice xa n xc) n (U8 xs)) := own_below ox5 bX
  go_upto_region 6 with fail
  rw [← hX6]
  rw [← hF6]
  clear hX6 hF6 hL4 hbs hO hP hN hb bX ox ox5 hxl
  have hokk : (ok != ok) = false := by simp
  have c0 := A6.cell 0
  have c1 := A6.cell 1
  have c2 := A6.cell 2
  have c3 := A6.cell 3
  have c4 := A6.cell 4
  simp at c0 c1 c2 c3 c4
  have A3 := HA3.out _ D
  have e0 := A3.cell 0
  have e1 := A3.cell 1
  have e2 := A3.cell 2
  have e3 := A3.cell 3
  have e4 := A3.cell 4
  simp at e0 e1 e2 e3 e4
  have gPs := ps_prts HGO.out HGP.out HLp.out HAt.out
  obtain ⟨_, _, en, gNs⟩ := ns_of HGN.out
  injection en with en1 en2 en3
  subst en1
  subst en3
  have HQ : Hid _ := eqBundleC d nb f ga pn gc ka nn kc pa pc na nc ps ns _ gPs gNs (HW.out _ D).1 (HW.out _ D).2 HSm.out (by omega)
  clear gPs gNs A3
  go_wp2_with fail
  refine Calls.mono HQ.out ?_
  clear HQ
  rintro e w7 ⟨rfl, hb⟩
  replace D := D.trans (hb.mono D.size)
  replace A6 := A6.kept hb
  replace HGO : Hid (w7.ownsRow L4 45 4 (.slice ga pn gc) pn (QL lg5)) := own_below HGO.out hb
  replace HGP : Hid (Prts L4 w7 lg5 ps) := HGP.out.below hb
  replace HGN : Hid (w7.ownsRow L4 41 4 (.slice ka nn kc) nn (FL (ns.map nrc))) := own_below HGN.out hb
  replace HXr : Hid (w7.ownsRow X3.heap.size 5 1 (.slice xa n xc) n (U8 xs)) := own_below HXr.out hb
  clear hb c0 c1 c2 c3 c4 e0 e1 e2 e3 e4
  go_wp2_with fail
  refine (toB a n c xs _ (HX.out _ (HBw.out _ D)) (by omega)).mono ?_
  rintro e w8 ⟨v, rfl, o, hb⟩
  obtain ⟨ya, yc, rfl, _, hbs⟩ := Bs.own o hy
  replace D := D.trans (hb.mono D.size)
  replace A6 := A6.kept hb
  replace HGO : Hid (w8.ownsRow L4 45 4 (.slice ga pn gc) pn (QL lg5)) := own_below HGO.out hb
  replace HGP : Hid (Prts L4 w8 lg5 ps) := HGP.out.below hb
  replace HGN : Hid (w8.ownsRow L4 41 4 (.slice ka nn kc) nn (FL (ns.map nrc))) := own_below HGN.out hb
  replace HXr : Hid (w8.ownsRow X3.heap.size 5 1 (.slice xa n xc) n (U8 xs)) := own_below HXr.out hb
  clear hb o
  have hxlen := hbs.2.1
  go_wp2_with fail
  refine (eqBC xa ya n xc yc xs _ (InB.of HXr.out hy hxlen).1 hbs (by omega)).mono ?_
  rintro e w9 ⟨rfl, hb⟩
  replace D := D.trans (hb.mono D.size)
  replace A6 := A6.kept hb
  replace HGO : Hid (w9.ownsRow L4 45 4 (.slice ga pn gc) pn (QL lg5)) := own_below HGO.out hb
  replace HGP : Hid (Prts L4 w9 lg5 ps) := HGP.out.below hb
  replace HGN : Hid (w9.ownsRow L4 41 4 (.slice ka nn kc) nn (FL (ns.map nrc))) := own_below HGN.out hb
  replace HXr : Hid (w9.ownsRow X3.heap.size 5 1 (.slice xa n xc) n (U8 xs)) := own_below HXr.out hb
  clear hb hbs
  go_wp2_with fail
  refine (markB X3.heap.size n _ 1 xs _ HXr.out (by omega) (by omega) (by omega)).mono ?_
  rintro e w10 ⟨rfl, o10, g10⟩
  replace D := D.grown g10 D.size (fun k hk => (HXl.out k hk).1)
  replace A6 : Arr w10 F6 26 [.int .i64 d, .int .i64 nb, .int .i64 f, .slice ga pn gc, .slice ka nn kc] := by
    unfold Arr
    rw [g10.block F6 A6.lt (fun e => by have := (HXl.out F6 e.symm).2; omega)]
    exact A6
  replace HGO : Hid (w10.ownsRow L4 45 4 (.slice ga pn gc) pn (QL lg5)) := own_gb HGO.out (fun k hk => (HXl.out k hk).2) g10
  replace HGP : Hid (Prts L4 w10 lg5 ps) := HGP.out.gb (fun k hk => (HXl.out k hk).2) g10
  replace HGN : Hid (w10.ownsRow L4 41 4 (.slice ka nn kc) nn (FL (ns.map nrc))) := own_gb HGN.out (fun k hk => (HXl.out k hk).2) g10
  clear g10 o10 HXr
  have hk1 : ¬ (1 + (n : Int) < 0) := by omega
  have c0 := A6.cell 0
  have c1 := A6.cell 1
  have c2 := A6.cell 2
  have c3 := A6.cell 3
  have c4 := A6.cell 4
  simp at c0 c1 c2 c3 c4
  have A3 := HA3.out _ D
  have e0 := A3.cell 0
  have e1 := A3.cell 1
  have e2 := A3.cell 2
  have e3 := A3.cell 3
  have e4 := A3.cell 4
  simp at e0 e1 e2 e3 e4
  have gPs := ps_prts HGO.out HGP.out HLp.out HAt.out
  obtain ⟨_, _, en, gNs⟩ := ns_of HGN.out
  injection en with en1 en2 en3
  subst en1
  subst en3
  have HQ : Hid _ := eqBundleC d nb f ga pn gc ka nn kc pa pc na nc ps ns _ gPs gNs (HW.out _ D).1 (HW.out _ D).2 HSm.out (by omega)
  clear gPs gNs A3
  go_wp2_with fail
  refine Calls.mono HQ.out ?_
  clear HQ
  rintro e w11 ⟨rfl, hb⟩
  replace D := D.trans (hb.mono D.size)
  replace A6 := A6.kept hb
  replace HGO : Hid (w11.ownsRow L4 45 4 (.slice ga pn gc) pn (QL lg5)) := own_below HGO.out hb
  replace HGP : Hid (Prts L4 w11 lg5 ps) := HGP.out.below hb
  replace HGN : Hid (w11.ownsRow L4 41 4 (.slice ka nn kc) nn (FL (ns.map nrc))) := own_below HGN.out hb
  clear hb c0 c1 c2 c3 c4 e0 e1 e2 e3 e4
  have c0 := A6.cell 0
  have c1 := A6.cell 1
  have c2 := A6.cell 2
  have c3 := A6.cell 3
  have c4 := A6.cell 4
  simp at c0 c1 c2 c3 c4
  have hLw : L4 ≤ w11.heap.size := by have := A6.lt; omega
  go_wp2_with fail
  refine (markBundleM L4 d nb f ga pn gc ka nn kc lg5 ps (ns.map nrc) _ HGO.out HGP.out HLp.out HGN.out hLw (by omega) (by omega)).mono ?_
  rintro e w12 ⟨rfl, hMk, hc, hot⟩
  replace D := bel_chgR D (Nat.le_refl _) hc z4
  replace A6 := hot.arr A6 (by decide) (by decide) (by decide)
  have HMk : Hid (MkB L4 w12 ga pn gc ka nn kc 1) := hMk
  clear hMk hc hot c0 c1 c2 c3 c4 HGO HGP HGN hk1
  have hk2 : ¬ (1 + 35 * (pn : Int) + 4 * (nn : Int) < 0) := by omega
  have c0 := A6.cell 0
  have c1 := A6.cell 1
  have c2 := A6.cell 2
  have c3 := A6.cell 3
  have c4 := A6.cell 4
  simp at c0 c1 c2 c3 c4
  go_wp2_with fail
  refine (heldBundleM L4 d nb f ga pn gc ka nn kc _ HMk.out (by omega) (by omega)).mono ?_
  rintro e w13 ⟨rfl, hb⟩
  replace D := D.trans (hb.mono D.size)
  replace A6 := A6.kept hb
  replace HMk : Hid (MkB L4 w13 ga pn gc ka nn kc 1) := HMk.out.below hb
  clear hb c0 c1 c2 c3 c4
  go_wp2_with fail
  refine (toB a n c xs _ (HX.out _ (HBw.out _ D)) (by omega)).mono ?_
  rintro e w14 ⟨v, rfl, o, hb⟩
  obtain ⟨za, zc, rfl, _, hbs⟩ := Bs.own o hy
  replace D := D.trans (hb.mono D.size)
  replace A6 := A6.kept hb
  replace HMk : Hid (MkB L4 w14 ga pn gc ka nn kc 1) := HMk.out.below hb
  clear hb o
  go_wp2_with fail
  refine Calls.mono (HI.out za zc w14 hbs (HE.out _ (HBw.out _ D))) ?_
  rintro e w15 ⟨ta, tc, sa, sc, lt, rfl, hO, hP, hN, hb⟩
  replace D := D.trans (hb.mono D.size)
  replace A6 := A6.kept hb
  replace HMk : Hid (MkB L4 w15 ga pn gc ka nn kc 1) := HMk.out.below hb
  have tPs := ps_prts hO hP HLp.out HAt.out
  obtain ⟨_, _, en, tNs⟩ := ns_of hN
  injection en with en1 en2 en3
  subst en1
  subst en3
  obtain ⟨X16, hX16⟩ : ∃ Z, Z = w15.alloc (.cells #[.int .i64 d, .int .i64 nb, .int .i64 f, .slice ta pn tc, .slice sa nn sc] 26) := ⟨_, rfl⟩
  have A11 : Arr X16 w15.heap.size 26 [.int .i64 d, .int .i64 nb, .int .i64 f, .slice ta pn tc, .slice sa nn sc] := by rw [hX16]; exact Arr.new _ _ _
  have bX : Below w15.heap.size w15 X16 := by rw [hX16]; exact (Below.refl _ _).alloc (Nat.le_refl _) _
  clear hb
  have hb := bX
  replace D := D.trans (hb.mono D.size)
  replace A6 := A6.kept hb
  replace HMk : Hid (MkB L4 X16 ga pn gc ka nn kc 1) := HMk.out.below hb
  obtain ⟨F11, hF11⟩ : ∃ F, F = w15.heap.size := ⟨_, rfl⟩
  rw [← hF11] at A11
  have A3 := HA3.out _ D
  have HQ : Hid _ := eqBundleC d nb f ta pn tc sa nn sc pa pc na nc ps ns _ (tPs.below bX) (tNs.below bX) (HW.out _ D).1 (HW.out _ D).2 HSm.out (by omega)
  go_upto_region 23 with fail
  rw [← hX16]
  rw [← hF11]
  clear hX16 hF11 hbs hO hP hN hb bX tPs tNs
  have c0 := A11.cell 0
  have c1 := A11.cell 1
  have c2 := A11.cell 2
  have c3 := A11.cell 3
  have c4 := A11.cell 4
  simp at c0 c1 c2 c3 c4
  have e0 := A3.cell 0
  have e1 := A3.cell 1
  have e2 := A3.cell 2
  have e3 := A3.cell 3
  have e4 := A3.cell 4
  simp at e0 e1 e2 e3 e4
  go_wp2_with fail
  refine Calls.mono HQ.out ?_
  clear HQ A3
  rintro e w17 ⟨rfl, hb⟩
  replace D := D.trans (hb.mono D.size)
  replace A6 := A6.kept hb
  replace HMk : Hid (MkB L4 w17 ga pn gc ka nn kc 1) := HMk.out.below hb
  clear hb c0 c1 c2 c3 c4 e0 e1 e2 e3 e4 A11
  have c0 := A6.cell 0
  have c1 := A6.cell 1
  have c2 := A6.cell 2
  have c3 := A6.cell 3
  have c4 := A6.cell 4
  simp at c0 c1 c2 c3 c4
  go_wp2_with fail
  refine (heldBundleM L4 d nb f ga pn gc ka nn kc _ HMk.out (by omega) (by omega)).mono ?_
  rintro e w18 ⟨rfl, hb⟩
  replace D := D.trans (hb.mono D.size)
  replace A6 := A6.kept hb
  replace HMk : Hid (MkB L4 w18 ga pn gc ka nn kc 1) := HMk.out.below hb
  have HFin : Hid (Below w.heap.size w w18) := HBw.out _ D
  clear hb c0 c1 c2 c3 c4 D A6 HMk
  go_wp2
  go_ret
  exact ⟨rfl, HFin.out⟩

end Go.Proofs.YtofflhhlacdgfaaDoor

/-
  What is proved here: what the laws' markByteS does to a converted row; where such rows lie; what the row's laid variables give the walks.
-/
import Derived.Test.YtgfjbaigmkdbcaaDoorM2
import Derived.Test.YtgfjbaigmkdbcaaDoorSmB
import Derived.Test.YtgfjbaigmkdbcaaDoorC0g
namespace Go.Proofs.YtgfjbaigmkdbcaaDoor
open Go.RowKit
set_option maxRecDepth 100000
set_option maxHeartbeats 2000000
set_option linter.unusedVariables false

theorem marks_setM (xs : List Int) (k0 : Int) (n k : Nat) (h : k < n) (hn : xs.length = n) : (marks k0 k ++ xs.drop k).set k ((k0 + (k : Int)) % 256) = marks k0 (k + 1) ++ xs.drop (k + 1) := by
  have e : xs.drop k = xs.getD k 0 :: xs.drop (k + 1) := by
    rw [List.drop_eq_getElem_cons (by omega)]; simp [show k < xs.length by omega]
  have e2 : marks k0 (k + 1) = marks k0 k ++ [(k0 + (k : Int)) % 256] := by simp [marks, List.range_succ]
  rw [e, e2]
  rw [List.set_append_right _ _ (by simp [marks_len])]
  simp [marks_len]

theorem ownM.shape {w : World} {base n : Nat} {v : Value} {xs : List Int} (h : ownM w base v n xs) : xs.length = n ∧ ((v = .slice none 0 0 ∧ n = 0) ∨ ∃ g cap, v = .slice (some ⟨g, 0, none⟩) n cap ∧ base ≤ g ∧ g < w.heap.size ∧ n ≤ cap ∧ cap ≤ maxLen) := by
  obtain ⟨hl, h | ⟨g, cap, cur, fz, rfl, h1, h2, _, h3, h4, _⟩⟩ := h
  · exact ⟨hl, .inl h⟩
  · exact ⟨hl, .inr ⟨g, cap, rfl, h1, (Array.getElem?_eq_some_iff.1 h2).1, h3, h4⟩⟩
theorem ownM.frozen {w : World} {base n g c : Nat} {xs : List Int} (h : ownM w base (.slice (some ⟨g, 0, none⟩) n c) n xs) (k : Nat) (hk : k < n) : w.frozen? ⟨g, k, none⟩ = false := by
  obtain ⟨hl, hn | ⟨g', cap, cur, fz, e, _, hgg, hf, hnc, _, hs, _⟩⟩ := h
  · cases hn.1
  · simp only [Value.slice.injEq, Option.some.injEq, Addr.mk.injEq] at e
    obtain ⟨⟨rfl, _⟩, _, rfl⟩ := e
    exact far_cell hgg (by rw [hs]; exact hf) (by omega)
theorem ownM.stored {w : World} {base n g c : Nat} {xs : List Int} (h : ownM w base (.slice (some ⟨g, 0, none⟩) n c) n xs) (k : Nat) (x : Int) (hk : k < n) :
    ownM (w.setCell ⟨g, k, none⟩ (.int .u8 x)) base (.slice (some ⟨g, 0, none⟩) n c) n (xs.set k x) ∧ w.grownBy (w.setCell ⟨g, k, none⟩ (.int .u8 x)) (some g) := by
  obtain ⟨hl, hn | ⟨g', cap, cur, fz, e, hb, hgg, hf, hnc, hm, hs, ht⟩⟩ := h
  · cases hn.1
  · simp only [Value.slice.injEq, Option.some.injEq, Addr.mk.injEq] at e
    obtain ⟨⟨rfl, _⟩, _, rfl⟩ := e
    refine ⟨⟨by simpa using hl, .inr ⟨g, c, cur.setIfInBounds k (.int .u8 x), fz, rfl, hb, by rw [setCell_eq_setRow w g k cur 5 fz _ hgg]; exact setRow_heap w g cur _ 5 fz hgg, hf, hnc, hm, by simpa using hs, ?_⟩⟩, ⟨rfl, rfl, rfl, by simp, fun i hi hne => heap_setCell_other w ⟨g, k, none⟩ i _ (fun h => hne (by rw [h]))⟩⟩
    rw [Array.toList_setIfInBounds, List.take_set, ht]
    simp [U8]
theorem markBM (B n : Nat) (v : Value) (k0 : Int) (xs : List Int) (w : World) (hown : ownM w B v n xs) (hn : n ≤ 2097152) (h0 : 0 ≤ k0) (h1 : k0 ≤ 4611686018427387904) :
    Calls Tryd.prog 14 #[v, .int .i64 k0] w fun e w' => e = .returned (.int .i64 (k0 + n)) ∧ ownM w' B v n (marks k0 n) ∧ w.grownBy w' v.ownBlock := by
  obtain ⟨hl, ⟨rfl, rfl⟩ | ⟨g, cap, rfl, hg, hgs, hnc, hcm⟩⟩ := hown.shape
  · go_enter Tryd.func14, Tryd.ntmps14
    go_wp2
    refine wp_loop_rounds 1 ?_
    rw [rounds_succ]
    go_wp2
    go_ret
    exact ⟨by simp, ⟨by simp [marks], .inl ⟨rfl, rfl⟩⟩, World.grownBy.refl _ _⟩
  · have HO0 : Hid (ownM w B (.slice (some ⟨g, 0, none⟩) n cap) n (marks k0 0 ++ xs.drop 0)) := by unfold Hid; simpa [marks] using hown
    clear hown
    go_enter Tryd.func14, Tryd.ntmps14
    go_wp2
    go_loopw [1, 5] (fun m i wr => ∃ k : Nat, k ≤ n ∧ i = .int .i64 k ∧ m = .int .i64 (k0 + k) ∧ Hid (ownM wr B (.slice (some ⟨g, 0, none⟩) n cap) n (marks k0 k ++ xs.drop k)) ∧ w.grownBy wr (some g)) (fun _ i _ => n - (intOf i).toNat)
    case atStart => exact ⟨0, Nat.zero_le _, rfl, by simp, HO0, World.grownBy.refl _ _⟩
    case round =>
      clear HO0
      obtain ⟨k, hk, rfl, rfl, HO, hb⟩ := hrel
      by_cases hlt : k < n
      · have hfz := HO.out.frozen k hlt
        have hu := HO.out.cells k hlt
        obtain ⟨u, hU⟩ : ∃ u : Int, u = (marks k0 k ++ xs.drop k).getD k 0 := ⟨_, rfl⟩
        rw [← hU] at hu
        have HS := HO.out.stored k ((k0 + (k : Int)) % 256) hlt
        rw [marks_setM xs k0 n k hlt hl] at HS
        have HS1 : Hid (ownM (wr.setCell ⟨g, k, none⟩ (.int .u8 ((k0 + (k : Int)) % 256))) B (.slice (some ⟨g, 0, none⟩) n cap) n (marks k0 (k + 1) ++ xs.drop (k + 1))) := HS.1
        have HS2 : Hid (wr.grownBy (wr.setCell ⟨g, k, none⟩ (.int .u8 ((k0 + (k : Int)) % 256))) (some g)) := HS.2
        have HB : Hid (w.grownBy wr (some g)) := hb
        have hcv : IntKind.u8.wrap (k0 + (k : Int)) = (k0 + (k : Int)) % 256 := by simp [IntKind.wrap, IntKind.signed, IntKind.bits]
        clear HS hb HO hU
        go_wp2
        go_roundw
        case rel => exact ⟨k + 1, by omega, by go_num, by go_num, HS1, grown_trans HB.out HS2.out⟩
        case measure => simp [intOf]; omega
      · have hkn : k = n := by omega
        subst hkn
        have hd : xs.drop k = [] := List.drop_eq_nil_of_le (by omega)
        rw [hd, List.append_nil] at HO
        go_wp2
        go_ret
        exact ⟨rfl, HO.out, hb⟩
/-- A converted row within [lo, hi). -/
structure RoM (W : World) (lo hi : Nat) (v : Value) (n : Nat) (l : List Int) : Prop where
  o : ownM W lo v n l
  i : In v lo hi
  z : hi ≤ W.heap.size
section
variable {W W' : World} {lo hi n : Nat} {v : Value} {l : List Int}
theorem RoM.new (o : ownM W lo v n l) : RoM W lo W.heap.size v n l := ⟨o, fun k hk => o.lt k hk, Nat.le_refl _⟩
theorem RoM.chg (h : RoM W lo hi v n l) {a b : Nat} (hc : Chg W W' a b) (hl : hi ≤ a ∨ b ≤ lo ∨ b ≤ a) : RoM W' lo hi v n l :=
  ⟨h.o.kept (fun k hk => hc.block k (h.o.lt k hk).2 (by have := h.i k hk; omega)), h.i, Nat.le_trans h.z hc.size⟩
theorem RoM.marked (h : RoM W lo hi v n l) {l' : List Int} (hg : W.grownBy W' v.ownBlock) (o : ownM W' lo v n l') : RoM W' lo hi v n l' := ⟨o, h.i, Nat.le_trans h.z hg.size⟩
theorem RoM.gr (h : RoM W lo hi v n l) (hg : W.grownBy W' v.ownBlock) : Chg W W' lo hi := .of_grown hg h.i
theorem RoM.bs {a : Option Addr} {c : Nat} (h : RoM W lo hi (.slice a n c) n l) (hy : ∀ x ∈ l, 0 ≤ x ∧ x < 256) : Bs W a n c l := by
  obtain ⟨a', c', e, hb⟩ := h.o.bs hy
  simp only [Value.slice.injEq, true_and] at e
  obtain ⟨rfl, rfl⟩ := e
  exact hb
end
end Go.Proofs.YtgfjbaigmkdbcaaDoor

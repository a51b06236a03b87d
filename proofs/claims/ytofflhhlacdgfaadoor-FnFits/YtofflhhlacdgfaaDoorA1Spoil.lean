/-
  What is proved here: the contract of l1spoil: a row of bytes of the call's own, at most one longer; nothing but the cursor turns; for every code.
-/
import Derived.Test.YtofflhhlacdgfaaDoorDr
import Derived.Test.YtofflhhlacdgfaaDoorJP12
import Derived.Deep.RegionHeld3
import Derived.Deep.RegionWith
namespace Go.Proofs.YtofflhhlacdgfaaDoor
open Go.RowKit
set_option maxRecDepth 100000

theorem own_take {W : World} {B n g cap : Nat} {l : List Int} (h : W.ownsRow B 5 1 (.slice (some ⟨g, 0, none⟩) n cap) n (U8 l)) (i : Nat) (hi : i ≤ n) : W.ownsRow B 5 1 (.slice (some ⟨g, 0, none⟩) i cap) i (U8 (l.take i)) := by
  have hl : l.length = n := by have := h.1; simpa using this
  refine ⟨by simp; omega, .inr ?_⟩
  rcases h.2 with ⟨hv, _⟩ | ⟨g', cap', cur, hv, hb, hh, h1, h2, h3, h4⟩
  · simp at hv
  · simp only [Value.slice.injEq, Option.some.injEq, Addr.mk.injEq, and_true, true_and] at hv
    obtain ⟨rfl, rfl⟩ := hv
    refine ⟨g, cap, cur, rfl, hb, hh, by omega, h2, h3, ?_⟩
    have e : cur.toList.take (i * 1) = (cur.toList.take (n * 1)).take i := by rw [List.take_take]; congr 1; omega
    rw [e, h4]; simp [U8, List.map_take]

theorem cut2 {w : World} {b o n cap p q : Nat} {xs : List Int} (h : Bs w (some ⟨b, o, none⟩) n cap xs) (hpq : p + q ≤ n) : Bs w (some ⟨b, o + p, none⟩) q (cap - p) ((xs.drop p).take q) := by
  obtain ⟨_, hl, hc, hby, h⟩ := h
  refine ⟨(fun h => by cases h), by simp; omega, by omega, fun x hx => hby x (List.mem_of_mem_drop (List.mem_of_mem_take hx)), ?_⟩
  by_cases hq : q = 0
  · exact .inl hq
  rcases h with h | ⟨b', o', ha, hb, hcell⟩
  · exact .inl (by omega)
  · simp only [Option.some.injEq, Addr.mk.injEq, and_true] at ha
    obtain ⟨rfl, rfl⟩ := ha
    refine .inr ⟨b, o + p, rfl, hb, fun j hj => ?_⟩
    rw [Nat.add_assoc, hcell (p + j) (by omega)]
    simp [hj]

theorem grown_drewS {w W : World} {r : Option Nat} (h : w.grownBy W r) : w.grownBy W.drew r := ⟨h.os, h.tape, h.output, h.size, h.block⟩
theorem made0 (w : World) (base : Nat) (h : base ≤ w.heap.size) : (w.alloc (.cells #[] 5)).ownsRow base 5 1 (.slice (some ⟨w.heap.size, 0, none⟩) 0 0) 0 (U8 []) := World.ownsRow_lit w #[] 0 h (by unfold maxLen; omega) rfl

theorem own_draw' {w W W' : World} {p m : Nat} {v : Value} {l : List Value} (h : W.ownsRow w.heap.size 5 1 v m l) (hp : p < w.heap.size) (hg : W.grownBy W' (some p)) : W'.ownsRow w.heap.size 5 1 v m l :=
  h.kept hg (by
    cases hv : v.ownBlock with
    | none => exact .inl rfl
    | some j => exact .inr (fun e => by have := (World.ownsRow.lt h j hv).1; injection e with e; omega))
theorem cur_drew {W : World} {p n c : Nat} {a : Option Addr} (h : Cur W p a n c) : Cur W.drew p a n c := h
theorem coded_drew {W : World} {p n c : Nat} {a : Option Addr} {xs : List Int} (h : Coded W p a n c xs) : Coded W.drew p a n c xs := h

theorem grown_app {w W W' : World} {p m : Nat} {v : Value} {l : List Value} {o : Obj} (h : w.grownBy W (some p)) (ho : W.ownsRow w.heap.size 5 1 v m l) (hg : (W.alloc o).grownBy W' v.ownBlock) : w.grownBy W' (some p) :=
  grown_into (grown_into h (grown_alloc W o none) (by intro k hk; cases hk)) hg (fun k hk => .inl (ho.lt k hk).1)

theorem cur_app {w W W' : World} {p m n c : Nat} {a : Option Addr} {v : Value} {l : List Value} {o : Obj} (hp : p < w.heap.size) (h : Cur W p a n c) (ho : W.ownsRow w.heap.size 5 1 v m l) (hg : (W.alloc o).grownBy W' v.ownBlock) : Cur W' p a n c :=
  cur_keep (cur_keep h (grown_alloc W o none) (by simp)) hg (fun e => by have := (ho.lt p e).1; omega)

theorem xor8 (x y : Int) : 0 ≤ bits BinOp.xor IntKind.u8 x y ∧ bits BinOp.xor IntKind.u8 x y < 256 := by
  have e : bits BinOp.xor IntKind.u8 x y = IntKind.u8.wrap ((BitVec.ofInt 8 x ^^^ BitVec.ofInt 8 y).toNat : Int) := rfl
  rw [e, IntKind.wrap_u8]
  omega

theorem spoil_last {w W : World} {p n c g cap i : Nat} {a : Option Addr} {l : List Int} {Z : Int} (gr : w.grownBy W (some p)) (cu : Cur W p a n c) (o4 : W.ownsRow w.heap.size 5 1 (.slice (some ⟨g, 0, none⟩) l.length cap) l.length (U8 l))
    (hg : w.heap.size ≤ g) (hp0 : p < w.heap.size) (hlb : ∀ x ∈ l, 0 ≤ x ∧ x < 256) (hZ : 0 ≤ Z ∧ Z < 256) :
    ∃ v l', Ending.returned (.slice (some ⟨g, 0, none⟩) l.length cap) = Ending.returned v ∧ l'.length ≤ l.length + 1 ∧ (∀ x ∈ l', 0 ≤ x ∧ x < 256) ∧
      (W.setCell ⟨g, i, none⟩ (.int .u8 Z)).ownsRow w.heap.size 5 1 v l'.length (U8 l') ∧ Cur (W.setCell ⟨g, i, none⟩ (.int .u8 Z)) p a n c ∧ w.grownBy (W.setCell ⟨g, i, none⟩ (.int .u8 Z)) (some p) := by
  have hst := o4.stored i (.int .u8 Z)
  refine ⟨_, l.set i Z, rfl, by simp, (fun z hz => ?_), ?_, cur_keep cu hst.2 (by simp; omega), grown_into gr hst.2 (fun k hk => by simp at hk; omega)⟩
  · rcases List.mem_or_eq_of_mem_set hz with k | k
    · exact hlb z k
    · rw [k]; exact hZ
  · have e : U8 (l.set i Z) = (U8 l).set i (.int .u8 Z) := by simp [U8, List.map_set]
    rw [e, List.length_set]; exact hst.1

set_option maxHeartbeats 2000000 in
theorem curSpoil (p : Nat) (a : Option Addr) (n c : Nat) (xs : List Int) (ar : Option Addr) (cr : Nat) (l : List Int) (w : World) (hcur : Cur w p a n c) (hcode : Coded w p a n c xs) (hr : Bs w ar l.length cr l) (hlen : l.length ≤ 1000) :
    Calls Tryd.prog 70 #[.pointer (some ⟨p, 0, none⟩), .slice ar l.length cr] w fun e w' => ∃ (v : Value) (l' : List Int), e = .returned v ∧ l'.length ≤ l.length + 1 ∧ (∀ x ∈ l', 0 ≤ x ∧ x < 256) ∧ w'.ownsRow w.heap.size 5 1 v l'.length (U8 l') ∧ Cur w' p a n c ∧ w.grownBy w' (some p) := by
  have hp0 := cur_lt hcur
  have hlb := hr.2.2.2.1
  have HLB : Hid _ := hlb
  have hB : Bs (w.alloc (Obj.cells #[] 5)) ar l.length cr l := hr.below ((Below.refl _ _).alloc (Nat.le_refl _) _)
  clear hr hlb
  go_enter Tryd.func70, Tryd.ntmps70
  go_wp2_with (at_builtin; refine wpl_append_bs rfl _ _ rfl w.heap.size _ 0 [] rfl ar l.length cr l rfl (made0 w w.heap.size (Nat.le_refl _)) hB ?_ ?_ ?_)
  · omega
  · simp
  intro v1 w1 h1 g1 nn1
  have gr1 : w.grownBy w1 (some p) := grown_into (grown_alloc w _ (some p)) g1 (fun k hk => by simp [Value.ownBlock] at hk; omega)
  have cu1 : Cur w1 p a n c := cur_keep (cur_keep hcur (grown_alloc w (Obj.cells #[] 5) none) (by simp)) g1 (fun e => by simp [Value.ownBlock] at e; omega)
  have cd1 := hcode.grown gr1
  obtain ⟨g, cap, rfl, hg, hgs, hlc, hcm⟩ : ∃ g cap, v1 = .slice (some ⟨g, 0, none⟩) l.length cap ∧ w.heap.size ≤ g ∧ g < w1.heap.size ∧ l.length ≤ cap ∧ cap ≤ maxLen := by
    obtain ⟨_, hs⟩ := own_shape h1
    rcases hs with ⟨hv, _⟩ | ⟨g, cap, hv, h2, h3, h4, h5, _⟩
    · exact absurd hv (by simpa using nn1)
    · exact ⟨g, cap, hv, h2, h3, h4, h5⟩
  unfold maxLen at hcm
  clear g1 nn1 hB hcur hcode
  by_cases hl0 : l.length = 0
  · have hle : l = [] := List.eq_nil_of_length_eq_zero hl0
    subst hle
    go_wp2_with fail
    refine (curByte p a n c xs _ cu1 cd1).mono ?_
    rintro e w2 ⟨x, rfl, hx0, hx1, hc2, hg2⟩
    have gr2 := grown_trans gr1 hg2
    have o2 := own_draw' h1 hp0 hg2
    have hs2 := gr2.size
    have hcv : IntKind.u8.wrap x = x := by simp [IntKind.wrap, IntKind.signed, IntKind.bits]; omega
    clear cu1 cd1 gr1 h1 hg2
    go_wp2_with (at_builtin; refine wpl_append_bs rfl _ _ rfl w.heap.size _ 0 [] rfl (some ⟨w2.heap.size, 0, none⟩) 1 1 [x] rfl (o2.alloc _) (Bs.one _ _ hx0 (by omega)) ?_ ?_ ?_)
    · omega
    · first | omega | (simp; omega)
    intro v3 w3 h3 g3 _
    have gr3 := grown_app gr2 o2 g3
    have cu3 := cur_app hp0 hc2 o2 g3
    clear g3 gr2 o2 hc2
    go_wp2
    go_ret
    exact ⟨v3, [x], rfl, by simp, (fun z hz => by simp at hz; omega), by simpa using h3, cu3, gr3⟩
  have hl1 : ((l.length : Int) == 0) = false := beq_eq_false_iff_ne.2 (by omega)
  go_wp2_with fail
  refine (curBelow p a n c xs (l.length : Int) _ cu1 cd1 (by omega)).mono ?_
  rintro e w2 ⟨I, rfl, hI0, hI1, _, cu2, hg2⟩
  have hI2 := hI1 (by omega)
  obtain ⟨i, rfl⟩ := Int.eq_ofNat_of_zero_le hI0
  have gr2 := grown_trans gr1 hg2
  have o2 := own_draw' h1 hp0 hg2
  have cd2 := cd1.grown hg2
  clear cu1 cd1 gr1 h1 hg2 hI1
  go_wp2_with fail
  refine (curBelow p a n c xs 5 _ cu2 cd2 (by omega)).mono ?_
  rintro e w3 ⟨S, rfl, hS0, hS1, _, cu3, hg3⟩
  have hS2 := hS1 (by omega)
  have gr3 := grown_trans gr2 hg3
  have o3 := own_draw' o2 hp0 hg3
  have cd3 := cd2.grown hg3
  have hs3 := gr3.size
  clear cu2 cd2 gr2 o2 hg3 hS1
  have hi1 : (i : Int) < (l.length : Int) := by omega
  have hi2 : (i : Int) ≤ (cap : Int) := by omega
  have hi3 : (0 : Int) ≤ (i : Int) := by omega
  by_cases e0 : S = 0
  · subst e0
    go_wp2
    go_ret
    exact ⟨_, l.take i, rfl, by simp; omega, (fun z hz => HLB.out z (List.mem_of_mem_take hz)), by have e : (l.take i).length = i := (by simp; omega); rw [e]; exact own_take o3 i (by omega), cu3, gr3⟩
  have t0 : (S == 0) = false := by simp [e0]
  by_cases e1 : S = 1
  · subst e1
    clear t0 e0
    go_wp2_with fail
    refine (curByte p a n c xs _ cu3 cd3).mono ?_
    rintro e w4 ⟨x, rfl, hx0, hx1, hc4, hg4⟩
    have gr4 := grown_trans gr3 hg4
    have o4 := own_draw' o3 hp0 hg4
    have hs4 := gr4.size
    have hcv : IntKind.u8.wrap x = x := by simp [IntKind.wrap, IntKind.signed, IntKind.bits]; omega
    clear cu3 cd3 gr3 o3 hg4
    go_wp2_with (at_builtin; refine wpl_append_bs rfl _ _ rfl w.heap.size _ l.length l rfl (some ⟨w4.heap.size, 0, none⟩) 1 1 [x] rfl (o4.alloc _) (Bs.one _ _ hx0 (by omega)) ?_ ?_ ?_)
    · omega
    · first | omega | (simp; omega)
    intro v5 w5 h5 g5 _
    have gr5 := grown_app gr4 o4 g5
    have cu5 := cur_app hp0 hc4 o4 g5
    clear g5 gr4 o4 hc4
    go_wp2
    go_ret
    refine ⟨v5, l ++ [x], rfl, by simp, (fun z hz => ?_), by rw [List.length_append]; simpa using h5, cu5, gr5⟩
    rcases List.mem_append.1 hz with k | k
    · exact HLB.out z k
    · simp at k; omega
  have t1 : (S == 1) = false := by simp [e1]
  by_cases e2 : S = 2
  · subst e2
    clear t0 e0 t1 e1
    go_wp2_with fail
    refine (curByte p a n c xs _ cu3 cd3).mono ?_
    rintro e w4 ⟨x, rfl, hx0, hx1, hc4, hg4⟩
    have gr4 := grown_trans gr3 hg4
    have o4 := own_draw' o3 hp0 hg4
    have hcv : IntKind.u8.wrap x = x := by simp [IntKind.wrap, IntKind.signed, IntKind.bits]; omega
    clear cu3 cd3 gr3 o3 hg4
    have hfz := o4.frozenAt i
    obtain ⟨u, hu⟩ : ∃ u, w4.cell? ⟨g, i, none⟩ = some u := by
      rw [o4.cellAt i (by omega)]
      have : i < (U8 l).length := by simp; omega
      exact ⟨_, List.getElem?_eq_getElem this⟩
    have hst := o4.stored i (.int .u8 x)
    have HS : Hid _ := hst
    clear hst o4
    go_wp2
    go_ret
    have HS2 := HS.out
    have gr5 := grown_into gr4 HS2.2 (fun k hk => by simp at hk; omega)
    have cu5 := cur_keep hc4 HS2.2 (by simp; omega)
    refine ⟨_, l.set i x, rfl, by simp, (fun z hz => ?_), ?_, cu5, gr5⟩
    · rcases List.mem_or_eq_of_mem_set hz with k | k
      · exact HLB.out z k
      · omega
    · have e : U8 (l.set i x) = (U8 l).set i (.int .u8 x) := by simp [U8, List.map_set]
      rw [e, List.length_set]; exact HS2.1
  have t2 : (S == 2) = false := by simp [e2]
  by_cases e3 : S = 3
  · subst e3
    clear t0 e0 t1 e1 t2 e2
    have hB3 := bs_of_own o3 HLB.out
    have bA : Below w3.heap.size w3 (w3.alloc (Obj.cells #[] 5)).drew := ((Below.refl _ _).alloc (Nat.le_refl _) _).drew
    have hT := (Bs.take (m := i) hB3 (by omega)).below bA
    have E3 := (made0 w3 w.heap.size hs3).drew
    have hwr : IntKind.i64.wrap ((i : Int) + 1) = (i : Int) + 1 := by rw [IntKind.wrap_i64]; omega
    have j1 : (0 : Int) ≤ (i : Int) + 1 := by omega
    have j2 : (i : Int) + 1 ≤ (l.length : Int) := by omega
    by_cases hcp : cap = i + 1
    · have hcp' : i + 1 = cap := hcp.symm
      have HE : Hid (l.length = cap) := by unfold Hid; omega
      have hC : Bs w3 (some ⟨g, 0, none⟩) 0 0 [] := ⟨(fun h => by cases h), rfl, by omega, by simp, .inl rfl⟩
      clear hB3 hcp
      go_wp2_with fail
      go_region_held3 (fun _ => True) (trivial)
        ((first
          | (refine step_append_bs rfl (.tmp 59) (.tmp 62) rfl w.heap.size _ 0 [] (by rfl) ⟨g, 0, none⟩ i cap (l.take i) (by rfl) E3 hT (by omega) (by simp; omega) ?_; intro v4 w4 h4 g4 _)
          | ((refine step_append_bs rfl (.tmp 63) (.tmp 67) rfl w.heap.size _ (0 + i) ([] ++ l.take i) (by rfl) ⟨g, 0, none⟩ 0 0 [] (by rfl) h4 (hC.below (bA.grown g4 (by simp) (by intro k hk; simp [Value.ownBlock] at hk; omega))) (by omega) (Nat.le_trans hs3 (bA.grown g4 (by simp) (by intro k hk; simp [Value.ownBlock] at hk; omega)).size) ?_); intro v5 w5 h5 g5 _)))
      have gr5 : w.grownBy w5 (some p) := grown_into (grown_into (grown_into gr3 (grown_drewS (grown_alloc w3 (Obj.cells #[] 5) none)) (by intro k hk; cases hk)) g4 (fun k hk => by simp [Value.ownBlock] at hk; omega)) g5 (fun k hk => .inl (h4.lt k hk).1)
      have cu5 : Cur w5 p a n c := cur_keep (cur_keep (cur_keep cu3 (grown_drewS (grown_alloc w3 (Obj.cells #[] 5) none)) (by simp)) g4 (by simp [Value.ownBlock]; omega)) g5 (fun e => by have := (h4.lt p e).1; omega)
      clear g4 g5 h4
      go_wp2
      go_ret
      refine ⟨v5, l.take i, rfl, by simp; omega, (fun z hz => HLB.out z (List.mem_of_mem_take hz)), ?_, cu5, gr5⟩
      have e : (l.take i).length = 0 + i + 0 := by simp; omega
      rw [e]; simpa using h5
    · have hC := (cut2 hB3 (show (i + 1) + (l.length - (i + 1)) ≤ l.length by omega))
      rw [Nat.zero_add] at hC
      have hci : ¬ (cap : Int) = (i : Int) + 1 := by omega
      clear hB3
      go_wp2_with fail
      go_region_held3 (fun _ => True) (trivial)
        ((first
          | (refine step_append_bs rfl (.tmp 59) (.tmp 62) rfl w.heap.size _ 0 [] (by rfl) ⟨g, 0, none⟩ i cap (l.take i) (by rfl) E3 hT (by omega) (by simp; omega) ?_; intro v4 w4 h4 g4 _)
          | ((refine step_append_bs rfl (.tmp 63) (.tmp 67) rfl w.heap.size _ (0 + i) ([] ++ l.take i) (by rfl) ⟨g, i + 1, none⟩ (l.length - (i + 1)) (cap - (i + 1)) ((l.drop (i + 1)).take (l.length - (i + 1))) (by rfl) h4 (hC.below (bA.grown g4 (by simp) (by intro k hk; simp [Value.ownBlock] at hk; omega))) (by omega) (Nat.le_trans hs3 (bA.grown g4 (by simp) (by intro k hk; simp [Value.ownBlock] at hk; omega)).size) ?_); intro v5 w5 h5 g5 _)))
      have gr5 : w.grownBy w5 (some p) := grown_into (grown_into (grown_into gr3 (grown_drewS (grown_alloc w3 (Obj.cells #[] 5) none)) (by intro k hk; cases hk)) g4 (fun k hk => by simp [Value.ownBlock] at hk; omega)) g5 (fun k hk => .inl (h4.lt k hk).1)
      have cu5 : Cur w5 p a n c := cur_keep (cur_keep (cur_keep cu3 (grown_drewS (grown_alloc w3 (Obj.cells #[] 5) none)) (by simp)) g4 (by simp [Value.ownBlock]; omega)) g5 (fun e => by have := (h4.lt p e).1; omega)
      clear g4 g5 h4
      go_wp2
      go_ret
      refine ⟨v5, l.take i ++ (l.drop (i + 1)).take (l.length - (i + 1)), rfl, by simp; omega, (fun z hz => ?_), ?_, cu5, gr5⟩
      · rcases List.mem_append.1 hz with k | k
        · exact HLB.out z (List.mem_of_mem_take k)
        · exact HLB.out z (List.mem_of_mem_drop (List.mem_of_mem_take k))
      · have e : (l.take i ++ (l.drop (i + 1)).take (l.length - (i + 1))).length = 0 + i + (l.length - (i + 1)) := by simp; omega
        rw [e]; simpa using h5
  · have t3 : (S == 3) = false := by simp [e3]
    clear e0 e1 e2 e3
    have hB3 := bs_of_own o3 HLB.out
    obtain ⟨y, hy⟩ : ∃ y, y = l.getD i 0 := ⟨_, rfl⟩
    have hck : w3.cell? ⟨g, i, none⟩ = some (.int .u8 y) := by
      rw [o3.cellAt i (by omega), hy]
      simp [show i < l.length by omega]
    have hyb : 0 ≤ y ∧ y < 256 := by rw [hy]; exact get_byte HLB.out (by omega)
    obtain ⟨hy0, hy1⟩ := hyb
    have hfz := o3.frozenAt i
    have hgp : g ≠ p := by omega
    have hckd : w3.drew.cell? ⟨g, i, none⟩ = some (.int .u8 y) := hck
    have HO3 : Hid _ := o3.drew
    clear hB3 hy o3
    go_wp2_with fail
    go_region_with ((go_at_call 77; refine (curBelow p a n c xs 8 _ (cur_drew cu3) (coded_drew cd3) (by omega)).mono ?_; rintro e w4 ⟨B, rfl, hB0, hB1, _, cu4, hg4⟩; have hB2 := hB1 (by omega); have hfz4 := (own_draw' HO3.out hp0 hg4).frozenAt i; have hck4 : w4.cell? ⟨g, i, none⟩ = some (.int .u8 y) := hg4.cell (a := ⟨g, i, none⟩) hckd (by simpa using hgp)))
    all_goals go_wp2
    all_goals go_ret
    all_goals exact spoil_last (grown_trans (grown_drewS gr3) hg4) cu4 (own_draw' HO3.out hp0 hg4) hg hp0 HLB.out (xor8 _ _)
end Go.Proofs.YtofflhhlacdgfaaDoor

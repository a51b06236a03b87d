/-
  What is proved here: a new flash of the program is marked, and its marks are kept; bytes at the beginning of a longer block.
-/
import Derived.Test.YtcnlpdpbkkjkoaaF9z
namespace Go.Proofs.Ytcnlpdpbkkjkoaa
set_option maxRecDepth 100000
set_option maxHeartbeats 1000000
open Go.RowKit

theorem OwnP.stored {w : World} {lo g n : Nat} {xs : List Int} (h : OwnP w lo g n xs) (k : Nat) (v : Int) : OwnP (w.setCell ⟨g, k, none⟩ (.int .u8 v)) lo g n (xs.set k v) ∧ w.grownBy (w.setCell ⟨g, k, none⟩ (.int .u8 v)) (some g) := by
  obtain ⟨cur, hg, h1, h2⟩ := h.blk
  refine ⟨⟨h.lo, by rw [List.length_set]; exact h.len, cur.setIfInBounds k (.int .u8 v), heap_setCell_same w g k _ 5 _ hg, by simpa using h1, ?_⟩, ⟨rfl, rfl, rfl, by simp, fun i hi hne => heap_setCell_other w _ i _ (fun e => hne (by rw [e]))⟩⟩
  rw [Array.toList_setIfInBounds, List.take_set, h2]
  simp [U8]
theorem OwnP.chg {w w' : World} {lo g n a b : Nat} {xs : List Int} (h : OwnP w lo g n xs) (hc : Chg w w' a b) (hl : g < a ∨ b ≤ g) : OwnP w' lo g n xs := by
  obtain ⟨cur, hg, h1, h2⟩ := h.blk
  exact ⟨h.lo, h.len, cur, by rw [hc.block g h.lt hl]; exact hg, h1, h2⟩
theorem marks_set (xs : List Int) (k0 : Int) (n k : Nat) (h : k < n) (hn : xs.length = n) : (marks k0 k ++ xs.drop k).set k ((k0 + (k : Int)) % 256) = marks k0 (k + 1) ++ xs.drop (k + 1) := by
  have e : xs.drop k = xs.getD k 0 :: xs.drop (k + 1) := by
    rw [List.drop_eq_getElem_cons (by omega)]; simp [show k < xs.length by omega]
  have e2 : marks k0 (k + 1) = marks k0 k ++ [(k0 + (k : Int)) % 256] := by simp [marks, List.range_succ]
  rw [e, e2]
  rw [List.set_append_right _ _ (by simp [marks_len])]
  simp [marks_len]

theorem markBP (lo g n : Nat) (k0 : Int) (xs : List Int) (w : World) (hown : OwnP w lo g n xs) (hn : n ≤ 2097152) (h0 : 0 ≤ k0) (h1 : k0 ≤ 10000000) :
    Calls Try.prog 42 #[.slice (some ⟨g, 0, none⟩) n n, .int .i64 k0] w fun e w' => e = .returned (.int .i64 (k0 + n)) ∧ OwnP w' lo g n (marks k0 n) ∧ w.grownBy w' (some g) := by
  have hl := hown.len
  have hown0 : OwnP w lo g n (marks k0 0 ++ xs.drop 0) := by simpa [marks] using hown
  clear hown
  go_enter Try.func42, Try.ntmps42
  go_wp2
  go_loopw [1, 5] (fun m i wr => ∃ k : Nat, k ≤ n ∧ i = .int .i64 k ∧ m = .int .i64 (k0 + k) ∧ OwnP wr lo g n (marks k0 k ++ xs.drop k) ∧ w.grownBy wr (some g)) (fun _ i _ => n - (intOf i).toNat)
  case atStart => exact ⟨0, Nat.zero_le _, rfl, by simp, hown0, World.grownBy.refl _ _⟩
  case round =>
    obtain ⟨k, hk, rfl, rfl, hown, hb⟩ := hrel
    clear hown0
    by_cases hlt : k < n
    · have hfz := hown.frozen k
      have hu := hown.cell k hlt
      obtain ⟨u, eu⟩ : ∃ u, u = (marks k0 k ++ xs.drop k).getD k 0 := ⟨_, rfl⟩
      rw [← eu] at hu
      have hst := hown.stored k ((k0 + (k : Int)) % 256)
      rw [marks_set xs k0 n k hlt hl] at hst
      have HS : Hid _ := hst
      have HB : Hid _ := hb
      have hcv : IntKind.u8.wrap (k0 + (k : Int)) = (k0 + (k : Int)) % 256 := by simp [IntKind.wrap, IntKind.signed, IntKind.bits]
      clear hst hb hown eu
      go_wp2
      go_roundw
      case rel => exact ⟨k + 1, by omega, by go_num, by go_num, HS.out.1, grown_trans HB.out HS.out.2⟩
      case measure => simp [intOf]; omega
    · have hkn : k = n := by omega
      subst hkn
      go_wp2
      go_ret
      refine ⟨rfl, ?_, hb⟩
      simpa [List.drop_eq_nil_of_le (show xs.length ≤ k by omega)] using hown

/-- A new flash of the program, in a cell of its own. -/
structure Fp (W : World) (lo P g g' c' : Nat) (bs ws : List Int) : Prop where
  p : Arr W P 25 [.slice (some ⟨g, 0, none⟩) 3072 3072, .slice (some ⟨g', 0, none⟩) 48 c']
  ob : OwnP W lo g 3072 bs
  ow : W.ownsRow lo 3 1 (.slice (some ⟨g', 0, none⟩) 48 c') 48 (I64 ws)
  ne : g ≠ g'
  gb : g < P
  gw : g' < P
theorem Fp.new {w : World} {lo g g' c' : Nat} {bs ws : List Int} (ob : OwnP w lo g 3072 bs) (ow : w.ownsRow lo 3 1 (.slice (some ⟨g', 0, none⟩) 48 c') 48 (I64 ws)) (ne : g ≠ g') :
    Fp (w.alloc (.cells #[.slice (some ⟨g, 0, none⟩) 3072 3072, .slice (some ⟨g', 0, none⟩) 48 c'] 25)) lo w.heap.size g g' c' bs ws :=
  ⟨Arr.new _ _ _, ob.below ((Below.refl _ _).alloc (Nat.le_refl _) _), ow.alloc _, ne, ob.lt, (ow.lt g' rfl).2⟩
theorem Fp.below {W W' : World} {lo P g g' c' : Nat} {bs ws : List Int} (h : Fp W lo P g g' c' bs ws) (hb : Below W.heap.size W W') : Fp W' lo P g g' c' bs ws :=
  ⟨h.p.kept hb, h.ob.below hb, own_below h.ow hb, h.ne, h.gb, h.gw⟩
theorem markFlashP (lo P g g' c' : Nat) (bs ws : List Int) (w : World) (o : Fp w lo P g g' c' bs ws) :
    Calls Try.prog 37 #[flV (some ⟨g, 0, none⟩) 3072 3072 (some ⟨g', 0, none⟩) 48 c', .int .i64 1] w fun e w' => e = .returned (.int .i64 3121) ∧ Fp w' lo P g g' c' (marks 1 3072) (marksI 3073 48) ∧ Gr2 w w' (some g) (some g') := by
  have HA : Hid (Arr (w.alloc (.cells #[.slice (some ⟨g, 0, none⟩) 3072 3072, .slice (some ⟨g', 0, none⟩) 48 c'] 25)) w.heap.size 25 [.slice (some ⟨g, 0, none⟩) 3072 3072, .slice (some ⟨g', 0, none⟩) 48 c']) := Arr.new _ _ _
  have lg := o.ob.lt
  have lg' := (o.ow.lt g' rfl).2
  have lP := o.p.lt
  have zb := o.gb
  have zw := o.gw
  have hne := o.ne
  have hbl : Below w.heap.size w (w.alloc (.cells #[.slice (some ⟨g, 0, none⟩) 3072 3072, .slice (some ⟨g', 0, none⟩) 48 c'] 25)) := (Below.refl _ _).alloc (Nat.le_refl _) _
  obtain ⟨V, hV⟩ : ∃ V, V = w.alloc (.cells #[.slice (some ⟨g, 0, none⟩) 3072 3072, .slice (some ⟨g', 0, none⟩) 48 c'] 25) := ⟨_, rfl⟩
  rw [← hV] at HA hbl
  have z9 : w.heap.size < V.heap.size := by rw [hV]; simp
  have oV := o.below hbl
  go_enter Try.func37, Try.ntmps37
  go_wp2_with fail
  rw [← hV]
  clear hV
  refine (markBP lo g 3072 1 bs _ oV.ob (by omega) (by omega) (by omega)).mono ?_
  rintro e w1 ⟨rfl, o1, g1⟩
  have ow1 := own_kept (u := .slice (some ⟨g, 0, none⟩) 3072 3072) oV.ow g1 (fun q h1 h2 => hne (by cases h1; cases h2; rfl))
  have hA1 : Arr w1 w.heap.size 25 [.slice (some ⟨g, 0, none⟩) 3072 3072, .slice (some ⟨g', 0, none⟩) 48 c'] := Arr.grown HA.out g1 (by omega)
  have p1 := oV.p.grown g1 (by omega)
  have c1 := arr2 hA1
  go_wp2_with fail
  refine (markI lo 48 _ 3073 ws _ ow1 (by omega) (by omega) (by omega)).mono ?_
  rintro e w2 ⟨rfl, ow2, g2⟩
  have o2 : OwnP w2 lo g 3072 (marks 1 3072) := o1.chg (.of_grown (a := g') (b := g' + 1) g2 (fun k hk => by cases hk; exact ⟨Nat.le_refl _, Nat.lt_succ_self _⟩)) (by omega)
  have p2 := p1.grown (q := g') g2 (by omega)
  have GG : Gr2 w w2 (some g) (some g') :=
    ⟨(g2.os.trans g1.os).trans hbl.os, (g2.tape.trans g1.tape).trans hbl.tape, (g2.output.trans g1.output).trans hbl.output, Nat.le_trans hbl.size (Nat.le_trans g1.size g2.size), fun i hi n1 n2 => by
      have hi1 : i < V.heap.size := Nat.lt_of_lt_of_le hi hbl.size
      rw [g2.block i (Nat.lt_of_lt_of_le hi1 g1.size) n2, g1.block i hi1 n1, hbl.block i hi]⟩
  clear g1 g2 c1 hA1 HA ow1 o1
  go_wp2
  go_ret
  exact ⟨rfl, ⟨p2, o2, ow2, hne, zb, zw⟩, GG⟩
end Go.Proofs.Ytcnlpdpbkkjkoaa

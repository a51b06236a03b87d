/-
  What is proved here: contracts of the library's slices.Grow (at the nil slice), slices.Concat (at two slices) and bytes.Clone, and of the program's PutNum, for slices of at most 2^22 bytes.
-/
import Derived.Test.YtjgoliajgfeehaaNum
import Derived.Lib.AppendZerosOnto
import Derived.WalkSpells
namespace Go.Proofs.Ytjgoliajgfeehaa
open Go.RowKit
open Ma

set_option maxHeartbeats 400000 in
theorem growNil (n : Nat) (w : World) (hn : n ≤ 8388608) :
    Calls Try.prog 60 #[.slice none 0 0, .int .i64 n] w fun e w' => ∃ v, e = .returned v ∧ w'.ownsRow w.heap.size 5 1 v 0 (U8 []) ∧ Below w.heap.size w w' := by
  obtain ⟨i0, hi, hz0, hz1, hz2⟩ := info_parts Try.info5
  by_cases h0 : n = 0
  · subst h0
    go_enter Try.func60, Try.ntmps60
    go_wp2
    go_ret
    exact ⟨_, rfl, World.ownsRow_nil _ _ _ _, Below.refl _ _⟩
  · have hpos : (0 : Int) < (n : Int) := by omega
    have hrun : ∀ ty, (Builtin.append_ #[22, 3] ty #[.slice none 0 0, .int .i64 (n : Int)]).run Try.prog w =
        .ok (.slice (some ⟨w.heap.size, 0, none⟩) n (grownCap w n 0 5)) (w.drew.alloc (.cells (#[] ++ Builtin.zeroCells (Value.int .u8 0).cells n ++ Builtin.zeroCells (Value.int .u8 0).cells (grownCap w n 0 5 - n)) 5)) := fun ty => by
      have h := Lib.run_append_grow_zeros w 22 3 ty 5 i0 (.int .u8 0) .i64 .i64 Try.underlying22 Try.underlying3 hi hz0 none 0 0 [] (run_firstCells_none w.drew i0.size 0 0 0) n (by omega) (by omega) (by omega) (by omega) (by rw [hz2]; omega)
        (by rw [hz2]; exact growslice_fits (by omega) (by omega))
      simpa using h
    have hGn : n ≤ grownCap w n 0 5 := grownCap_ge w _ _ _
    have hGm : grownCap w n 0 5 ≤ maxLen := grownCap_le_maxLen w n 0 5 (by unfold maxLen; omega)
    obtain ⟨G, hG⟩ : ∃ G, G = grownCap w n 0 5 := ⟨_, rfl⟩
    rw [← hG] at hrun hGn hGm
    clear hG hi hz0 hz1 hz2
    obtain ⟨C, hC⟩ : ∃ C, C = (#[] ++ Builtin.zeroCells (Value.int .u8 0).cells n ++ Builtin.zeroCells (Value.int .u8 0).cells (G - n)) := ⟨_, rfl⟩
    rw [← hC] at hrun
    have hCs : C.size = G * 1 := by rw [hC]; simp [size_zeroCells, Value.cells]; omega
    have HC : Hid (C.size = G * 1) := hCs
    clear hC hCs
    have hGm' := hGm
    unfold maxLen at hGm
    go_enter Try.func60, Try.ntmps60
    go_wp2_with (at_builtin; refine Lib.wpList_append_run _ rfl _ _ _ _ rfl _ _ rfl rfl _ _ (hrun _) ?_)
    go_ret
    exact ⟨.slice (some ⟨w.heap.size, 0, none⟩) 0 G, rfl, (World.ownsRow_made (base := w.heap.size) (e := 5) (size := 1) w C G (Nat.le_refl _) hGm' HC.out).drew, ((Below.refl _ _).alloc (Nat.le_refl _) _).drew⟩

set_option maxHeartbeats 1000000 in
theorem concat2 (g : Nat) (a a' : Option Addr) (n c n' c' : Nat) (xs ys : List Int) (w : World) (hg : g < w.heap.size)
    (h0 : w.cell? ⟨g, 0, none⟩ = some (.slice a n c)) (h1 : w.cell? ⟨g, 1, none⟩ = some (.slice a' n' c')) (h : Bs w a n c xs) (h' : Bs w a' n' c' ys) (hn : n ≤ 2098176) (hn' : n' ≤ 2098176) :
    Calls Try.prog 50 #[.slice (some ⟨g, 0, none⟩) 2 2] w fun e w' => ∃ v, e = .returned v ∧ w'.ownsRow w.heap.size 5 1 v (n + n') (U8 (xs ++ ys)) ∧ Below w.heap.size w w' := by
  go_enter Try.func50, Try.ntmps50
  go_wp2
  refine wp_loop_rounds 3 ?_
  rw [rounds_succ]
  go_wp2
  rw [rounds_succ]
  go_wp2
  rw [rounds_succ]
  go_wp2_with fail
  have eN : ((n : Int) + (n' : Int)) = ((n + n' : Nat) : Int) := by omega
  rw [eN]
  refine (growNil (n + n') w (by omega)).mono ?_
  rintro e w1 ⟨v1, rfl, hown1, b1⟩
  have q0 : w1.cell? ⟨g, 0, none⟩ = some (.slice a n c) := (b1.cell (p := ⟨g, 0, none⟩) hg).trans h0
  have q1 : w1.cell? ⟨g, 1, none⟩ = some (.slice a' n' c') := (b1.cell (p := ⟨g, 1, none⟩) hg).trans h1
  have s1 := b1.size
  have hx1 := h.below b1
  clear h0 h1 eN
  go_wp2
  refine wp_loop_rounds 3 ?_
  rw [rounds_succ]
  go_wp2_with (at_builtin; refine wpl_append_bs rfl _ _ rfl w.heap.size _ 0 [] rfl a n c xs rfl hown1 hx1 ?_ ?_ ?_)
  · omega
  · omega
  intro v2 w2 hown2 hgr2 _
  have b2 : Below w.heap.size w w2 := below_app0 b1 s1 hown1 hgr2
  have q1' : w2.cell? ⟨g, 1, none⟩ = some (.slice a' n' c') := (b2.cell (p := ⟨g, 1, none⟩) hg).trans ((b1.cell (p := ⟨g, 1, none⟩) hg).symm.trans q1)
  have s2 := b2.size
  have hy2 := h'.below b2
  clear hgr2 hown1 b1 q0 q1 s1 hx1 h h'
  go_wp2
  rw [rounds_succ]
  go_wp2_with (at_builtin; refine wpl_append_bs rfl _ _ rfl w.heap.size _ n xs rfl a' n' c' ys rfl hown2 hy2 ?_ ?_ ?_)
  · omega
  · omega
  intro v3 w3 hown3 hgr3 _
  have b3 : Below w.heap.size w w3 := below_app0 b2 s2 hown2 hgr3
  clear hgr3 hown2 b2 q1' s2 hy2
  go_wp2
  rw [rounds_succ]
  go_wp2
  go_ret
  exact ⟨v3, rfl, by simpa using hown3, b3⟩

set_option maxHeartbeats 400000 in
theorem cloneB (a : Option Addr) (n c : Nat) (xs : List Int) (w : World) (h : Bs w a n c xs) (hn : n ≤ 2098176) :
    Calls Try.prog 53 #[.slice a n c] w fun e w' => ∃ v, e = .returned v ∧ w'.ownsRow w.heap.size 5 1 v n (U8 xs) ∧ Below w.heap.size w w' := by
  have q22 : ∀ (w : World) (a : Option Addr) (n c n' c' : Nat), (binOp .eql 22 (.slice a n c) (.slice none n' c')).run Try.prog w = .ok (.bool a.isNone) w := fun w a n c n' c' => Lib.run_eql_slice_nil w _ _ a n c n' c' Try.underlying22
  cases a with
  | none =>
    obtain ⟨h0, hl, hc, _, _⟩ := h
    have hc0 := h0 rfl
    have hn0 : n = 0 := by omega
    subst hn0
    have hx : xs = [] := List.eq_nil_of_length_eq_zero hl
    subst hx
    go_enter Try.func53, Try.ntmps53
    go_wp2
    go_ret
    exact ⟨_, rfl, World.ownsRow_nil _ _ _ _, Below.refl _ _⟩
  | some ad =>
    have hB : Bs (w.alloc (Obj.cells #[] 5)) (some ad) n c xs := h.below ((Below.refl _ _).alloc (Nat.le_refl _) _)
    clear h
    go_enter Try.func53, Try.ntmps53
    go_wp2_with (at_builtin; refine wpl_append_bs rfl _ _ rfl w.heap.size _ 0 [] rfl (some ad) n c xs rfl ?_ hB ?_ ?_ ?_)
    · exact World.ownsRow_made w #[] 0 (Nat.le_refl _) (by unfold maxLen; omega) rfl
    · omega
    · simp
    intro v1 w1 hown1 hgrow1 _
    have hbel1 : Below w.heap.size w w1 := ((Below.refl _ _).alloc (Nat.le_refl _) _).grown hgrow1 (by simp) (by intro k hk; simp [Value.ownBlock] at hk; omega)
    clear hgrow1 hB
    go_wp2
    go_ret
    exact ⟨_, rfl, hown1, hbel1⟩

theorem Try.alen47 : Try.prog.arrayLen 47 = 5 := by kernel_rfl
theorem Try.elem47 : Try.prog.elem 47 = 5 := by kernel_rfl

theorem cut47 (w : World) (b k : Nat) (hk : k ≤ 5) : (Instr.sliceAt 47 (.pointer (some ⟨b, 0, none⟩)) none (some (.int .i64 (k : Int))) none).run Try.prog w = .ok (.slice (some ⟨b, 0, none⟩) k 5) w := by
  obtain ⟨i0, hi, hz0, hz1, hz2⟩ := info_parts Try.info5
  have h := run_sliceAt_array_h (P := Try.prog) w 47 ⟨b, 0, none⟩ (by rw [Try.alen47, Try.elem47]; exact Try.underlying47) .i64 (k : Int) (by omega) (by rw [Try.alen47]; omega)
  rw [h, Try.elem47, Try.alen47]
  simp [sizeOf, typeInfo, hi, hz1, slicedAt, Result.andThen, Addr.add_lit]

theorem Bs.arr5 (w : World) (x0 x1 x2 x3 x4 : Int) (k : Nat) (hk : k ≤ 5) (D : List Int) (hD : [x0, x1, x2, x3, x4].take k = D) (hby : ∀ x ∈ D, 0 ≤ x ∧ x < 256) :
    Bs (w.alloc (.cells #[.int .u8 x0, .int .u8 x1, .int .u8 x2, .int .u8 x3, .int .u8 x4] 47)) (some ⟨w.heap.size, 0, none⟩) k 5 D := by
  subst hD
  refine ⟨(fun h => by cases h), by simp; omega, hk, hby, .inr ⟨w.heap.size, 0, rfl, by simp, fun j hj => ?_⟩⟩
  rw [World.cell?_alloc_at _ _ _ _ rfl]
  have e : ([x0, x1, x2, x3, x4].take k).getD j 0 = [x0, x1, x2, x3, x4].getD j 0 := by simp [hj]
  rw [e]
  have h5 : j = 0 ∨ j = 1 ∨ j = 2 ∨ j = 3 ∨ j = 4 := by omega
  rcases h5 with rfl | rfl | rfl | rfl | rfl <;> rfl

set_option maxHeartbeats 1000000 in
theorem implPut (a : Option Addr) (n c : Nat) (xs : List Int) (N : Int) (w : World) (h : Bs w a n c xs) (hn : n ≤ 2097152) :
    Calls Try.prog 16 #[.slice a n c, .int .i64 N] w fun e w' => ∃ v, e = .returned v ∧ w'.ownsRow w.heap.size 5 1 v (n + (numB N).length) (U8 (xs ++ numB N)) ∧ Below w.heap.size w w' := by
  have HP := split_all N w
  have hk := numB_len N
  have hby := numB_byte N
  have htk : (pad N).take (numB N).length = numB N := by simp [pad]
  obtain ⟨x0, x1, x2, x3, x4, hx⟩ := five (pad N) (pad_len N)
  rw [hx] at HP htk
  obtain ⟨k, hkk⟩ : ∃ k, k = (numB N).length := ⟨_, rfl⟩
  rw [← hkk] at HP hk htk ⊢
  have HK : Hid (k = (numB N).length) := hkk
  have HT : Hid _ := htk
  clear hx hkk htk
  generalize numB N = D at HK HT hby ⊢
  go_enter Try.func16, Try.ntmps16
  go_wp2_with fail
  refine HP.mono ?_
  rintro e w1 ⟨rfl, b1⟩
  clear HP
  have s1 := b1.size
  have hcut := fun w b => cut47 w b k hk
  simp only [U8, List.map_cons, List.map_nil]
  go_wp2_with fail
  clear hcut
  have bA := (Below.refl w1.heap.size w1).alloc (Nat.le_refl _) (Obj.cells #[Value.int IntKind.u8 x0, Value.int IntKind.u8 x1, Value.int IntKind.u8 x2, Value.int IntKind.u8 x3, Value.int IntKind.u8 x4] 47)
  have bB := (Below.refl _ (w1.alloc (Obj.cells #[Value.int IntKind.u8 x0, Value.int IntKind.u8 x1, Value.int IntKind.u8 x2, Value.int IntKind.u8 x3, Value.int IntKind.u8 x4] 47))).alloc (Nat.le_refl _) (Obj.cells #[Value.slice a n c, Value.slice (some { block := w1.heap.size, off := 0 }) k 5] 22)
  have g2 := (b1.trans (bA.mono s1))
  have g3 := g2.trans (bB.mono g2.size)
  have hD := (Bs.arr5 w1 x0 x1 x2 x3 x4 k hk D HT.out hby).below bB
  refine (concat2 (w1.heap.size + 1) a (some ⟨w1.heap.size, 0, none⟩) n c k 5 xs D _ (by simp) (by rw [World.cell?_alloc_at _ _ _ _ (by simp)]; rfl) (by rw [World.cell?_alloc_at _ _ _ _ (by simp)]; rfl) (h.below g3) hD (by omega) (by omega)).mono ?_
  rintro e w2 ⟨v, rfl, hown, b2⟩
  have g4 := g3.trans (b2.mono g3.size)
  have hown' := own_base hown g3.size
  clear hown b2 g3 g2 bA bB hD h
  go_wp2
  go_ret
  exact ⟨_, rfl, hown', g4⟩
end Go.Proofs.Ytjgoliajgfeehaa

/-
  What is proved here: contracts of what is drawn with a cursor (l1some, l1PickInt, l1num): bytes in 0 .. 255, no more than asked for; a number of the list; nothing but the cursor turns; for every code.
-/
import Derived.Test.YtjgoliajgfeehaaCur
namespace Go.Proofs.Ytjgoliajgfeehaa
open Go.RowKit

/-- What each draw leaves: the cursor is one, nothing but it has turned. -/
structure Drawn (W W' : World) (p : Nat) (a : Option Addr) (n c : Nat) : Prop where
  cur : Cur W' p a n c
  gr : W.grownBy W' (some p)

theorem cur_lt {W : World} {p n c : Nat} {a : Option Addr} (h : Cur W p a n c) : p < W.heap.size := by
  obtain ⟨i, hh, _, hp⟩ := h
  exact (Array.getElem?_eq_some_iff.1 hp).1

theorem cur_keep {W W' : World} {p n c : Nat} {a : Option Addr} {row : Option Nat} (h : Cur W p a n c) (hg : W.grownBy W' row) (hr : row ≠ some p) : Cur W' p a n c := by
  have hlt := cur_lt h
  obtain ⟨i, hh, hi, hp⟩ := h
  exact ⟨i, hh, hi, (hg.block p hlt (fun e => hr e.symm)).trans hp⟩

theorem grown_alloc (w : World) (o : Obj) (r : Option Nat) : w.grownBy (w.alloc o) r := World.grownBy_alloc w o r

set_option maxHeartbeats 1000000 in
theorem curSome (p : Nat) (a : Option Addr) (n c : Nat) (xs : List Int) (N : Nat) (w : World) (hcur : Cur w p a n c) (hcode : Coded w p a n c xs) (hN : N ≤ 100) :
    Calls Try.prog 47 #[.pointer (some ⟨p, 0, none⟩), .int .i64 N] w fun e w' => ∃ (v : Value) (l : List Int), e = .returned v ∧ l.length ≤ N ∧ (∀ x ∈ l, 0 ≤ x ∧ x < 256) ∧ w'.ownsRow w.heap.size 5 1 v l.length (U8 l) ∧ Cur w' p a n c ∧ w.grownBy w' (some p) := by
  go_enter Try.func47, Try.ntmps47
  go_wp2_with fail
  refine (curBelow p a n c xs _ _ hcur hcode (by omega)).mono ?_
  rintro e w1 ⟨m, rfl, hm0, hm1, _, hc1, hg1⟩
  have hm2 := hm1 (by omega)
  have hp0 := cur_lt hcur
  clear hm1
  obtain ⟨M, rfl⟩ := Int.eq_ofNat_of_zero_le hm0
  go_wp2
  go_loopw [5, 7] (fun v i wr => ∃ (l : List Int), l.length ≤ M ∧ i = .int .i64 (l.length : Int) ∧ Hid (∀ x ∈ l, 0 ≤ x ∧ x < 256) ∧ wr.ownsRow w.heap.size 5 1 v l.length (U8 l) ∧ Cur wr p a n c ∧ w.grownBy wr (some p)) (fun _ i _ => M - (intOf i).toNat)
  case atStart => exact ⟨[], by simp, rfl, (fun x hx => by cases hx), World.ownsRow_nil _ _ _ _, hc1, hg1⟩
  case round =>
    obtain ⟨l, hlM, rfl, HL, hown, hcu, hgr⟩ := hrel
    clear hc1 hg1
    by_cases hlt : l.length < M
    · have hcd := hcode.grown hgr
      go_wp2_with fail
      refine (curByte p a n c xs _ hcu hcd).mono ?_
      rintro e w2 ⟨x, rfl, hx0, hx1, hc2, hg2⟩
      have hgr2 := grown_trans hgr hg2
      have hown2 := hown.kept hg2 (by
        cases hv : u5.ownBlock with
        | none => exact .inl rfl
        | some k => exact .inr (fun e => by have := (hown.lt k hv).1; simp at e; omega))
      have hs2 := hgr2.size
      have hcv : IntKind.u8.wrap x = x := by simp [IntKind.wrap, IntKind.signed, IntKind.bits]; omega
      clear hown hcu hgr hg2 hcd
      go_wp2_with (at_builtin; refine wpl_append_bs rfl _ _ rfl w.heap.size _ l.length l rfl (some ⟨w2.heap.size, 0, none⟩) 1 1 [x] rfl (hown2.alloc _) (Bs.one _ _ hx0 (by omega)) ?_ ?_ ?_)
      · omega
      · first | omega | (simp; omega)
      intro v' w3 h1 h2 _
      have hr : ∀ k, u5.ownBlock = some k → w.heap.size ≤ k ∨ k = p := fun k hk => .inl (hown2.lt k hk).1
      have hgr3 := grown_into (grown_into hgr2 (grown_alloc w2 _ none) (by intro k hk; cases hk)) h2 hr
      have hc3 : Cur w3 p a n c := cur_keep (cur_keep hc2 (grown_alloc w2 _ none) (by simp)) h2 (fun e => by have := (hown2.lt p e).1; omega)
      have HR : Hid (w3.ownsRow w.heap.size 5 1 v' (l ++ [x]).length (U8 (l ++ [x]))) := by unfold Hid; simpa using h1
      have HL2 : Hid (∀ z ∈ l ++ [x], 0 ≤ z ∧ z < 256) := fun z hz => by
        rcases List.mem_append.1 hz with k | k
        · exact HL.out z k
        · simp at k; omega
      clear h1 h2 hown2 hc2 hgr2 hr
      go_wp2
      go_roundw
      case rel => exact ⟨l ++ [x], by simp; omega, by simp, HL2, HR.out, hc3, hgr3⟩
      case measure => simp [intOf]; omega
    · go_wp2
      go_ret
      exact ⟨_, l, rfl, by omega, HL.out, hown, hcu, hgr⟩

set_option maxHeartbeats 1000000 in
theorem curPick (p : Nat) (a : Option Addr) (n c : Nat) (xs : List Int) (g m : Nat) (L : List Int) (w : World) (hcur : Cur w p a n c) (hcode : Coded w p a n c xs)
    (hL : L.length = m) (hm : 0 < m) (hm2 : m ≤ 100) (hgp : g ≠ p) (hcells : ∀ j, j < m → w.cell? ⟨g, j, none⟩ = some (.int .i64 (L.getD j 0))) :
    Calls Try.prog 55 #[.pointer (some ⟨p, 0, none⟩), .slice (some ⟨g, 0, none⟩) m m] w fun e w' => ∃ x : Int, e = .returned (.int .i64 x) ∧ x ∈ L ∧ Cur w' p a n c ∧ w.grownBy w' (some p) := by
  go_enter Try.func55, Try.ntmps55
  go_wp2_with fail
  refine (curBelow p a n c xs _ _ hcur hcode (by omega)).mono ?_
  rintro e w1 ⟨k, rfl, hk0, hk1, _, hc1, hg1⟩
  have hk2 := hk1 (by omega)
  clear hk1
  obtain ⟨K, rfl⟩ := Int.eq_ofNat_of_zero_le hk0
  obtain ⟨x, hx⟩ : ∃ x, x = L.getD K 0 := ⟨_, rfl⟩
  have hck : w1.cell? ⟨g, K, none⟩ = some (.int .i64 x) := by rw [hx]; exact hg1.cell (hcells K (by omega)) (by simpa using hgp)
  have HM : Hid (x ∈ L) := by
    unfold Hid
    have e : L.getD K 0 = L[K]'(by omega) := by simp [show K < L.length by omega]
    rw [hx, e]; exact List.getElem_mem _
  clear hcells hx
  go_wp2
  go_ret
  exact ⟨x, rfl, HM.out, hc1, hg1⟩

theorem cells_arr (w : World) (L : List Int) (t : TypeId) : ∀ j, j < L.length → (w.alloc (.cells (L.map (Value.int .i64)).toArray t)).cell? ⟨w.heap.size, j, none⟩ = some (.int .i64 (L.getD j 0)) := by
  intro j hj
  rw [World.cell?_alloc_at _ _ _ _ rfl]
  simp [hj]

set_option maxHeartbeats 1000000 in
theorem curNum (p : Nat) (a : Option Addr) (n c : Nat) (xs : List Int) (w : World) (hcur : Cur w p a n c) (hcode : Coded w p a n c xs) :
    Calls Try.prog 48 #[.pointer (some ⟨p, 0, none⟩)] w fun e w' => ∃ x : Int, e = .returned (.int .i64 x) ∧ -9223372036854775808 ≤ x ∧ x ≤ 9223372036854775807 ∧ Cur w' p a n c ∧ w.grownBy w' (some p) := by
  have hp0 := cur_lt hcur
  go_enter Try.func48, Try.ntmps48
  go_wp2_with fail
  refine (curBelow p a n c xs _ _ hcur hcode (by omega)).mono ?_
  rintro e w1 ⟨k, rfl, hk0, hk1, _, hc1, hg1⟩
  have hk2 := hk1 (by omega)
  have hd1 := hcode.grown hg1
  have hs1 := hg1.size
  clear hk1 hcur hcode
  by_cases e0 : k = 0
  · subst e0
    go_wp2_with fail
    have hgA := grown_alloc w1 (.cells (([0, 1, 127, 128, 16383, 16384, 2147483647, 2147483646] : List Int).map (Value.int .i64)).toArray 3) none
    have hcA := cur_keep hc1 hgA (by simp)
    have hdA := hd1.grown (grown_alloc w1 (.cells (([0, 1, 127, 128, 16383, 16384, 2147483647, 2147483646] : List Int).map (Value.int .i64)).toArray 3) (some p))
    have hcell := cells_arr w1 [0, 1, 127, 128, 16383, 16384, 2147483647, 2147483646] 3
    refine (curPick p a n c xs w1.heap.size 8 [0, 1, 127, 128, 16383, 16384, 2147483647, 2147483646] _ hcA hdA rfl (by omega) (by omega) (by omega) (fun j hj => hcell j hj)).mono ?_
    rintro e w2 ⟨x, rfl, hx, hc2, hg2⟩
    have hgr := grown_trans (grown_into hg1 hgA (by intro k hk; cases hk)) hg2
    have hb : -9223372036854775808 ≤ x ∧ x ≤ 9223372036854775807 := by
      simp only [List.mem_cons, List.not_mem_nil, or_false] at hx
      omega
    clear hgA hcA hdA hcell hx hg2 hg1 hc1 hd1
    go_wp2
    go_ret
    exact ⟨x, rfl, hb.1, hb.2, hc2, hgr⟩
  have t0 : (k == 0) = false := by simp [e0]
  by_cases e1 : k = 1
  · subst e1
    clear t0 e0
    go_wp2_with fail
    have hgA := grown_alloc w1 (.cells (([-1, 2147483648, 4611686018427387904, -9223372036854775808, 9223372036854775807] : List Int).map (Value.int .i64)).toArray 3) none
    have hcA := cur_keep hc1 hgA (by simp)
    have hdA := hd1.grown (grown_alloc w1 (.cells (([-1, 2147483648, 4611686018427387904, -9223372036854775808, 9223372036854775807] : List Int).map (Value.int .i64)).toArray 3) (some p))
    have hcell := cells_arr w1 [-1, 2147483648, 4611686018427387904, -9223372036854775808, 9223372036854775807] 3
    refine (curPick p a n c xs w1.heap.size 5 [-1, 2147483648, 4611686018427387904, -9223372036854775808, 9223372036854775807] _ hcA hdA rfl (by omega) (by omega) (by omega) (fun j hj => hcell j hj)).mono ?_
    rintro e w2 ⟨x, rfl, hx, hc2, hg2⟩
    have hgr := grown_trans (grown_into hg1 hgA (by intro k hk; cases hk)) hg2
    have hb : -9223372036854775808 ≤ x ∧ x ≤ 9223372036854775807 := by
      simp only [List.mem_cons, List.not_mem_nil, or_false] at hx
      omega
    clear hgA hcA hdA hcell hx hg2 hg1 hc1 hd1
    go_wp2
    go_ret
    exact ⟨x, rfl, hb.1, hb.2, hc2, hgr⟩
  have t1 : (k == 1) = false := by simp [e1]
  clear e0 e1
  go_wp2_with fail
  refine (curBelow p a n c xs _ _ hc1 hd1 (by omega)).mono ?_
  rintro e w2 ⟨x, rfl, hx0, hx1, _, hc2, hg2⟩
  have hx2 := hx1 (by omega)
  clear hx1
  have hgr := grown_trans hg1 hg2
  go_wp2
  go_ret
  exact ⟨x, rfl, by omega, by omega, hc2, hgr⟩
end Go.Proofs.Ytjgoliajgfeehaa

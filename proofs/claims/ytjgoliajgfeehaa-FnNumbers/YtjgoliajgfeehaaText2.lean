/-
  What is proved here: contracts of the specification's and of the program's GetText, for slices of at most 2^20 bytes and every place.
-/
import Derived.Test.YtjgoliajgfeehaaText
namespace Go.Proofs.Ytjgoliajgfeehaa
open Go.RowKit
open Ma

theorem Bs.cut {w : World} {b o n cap p q : Nat} {xs : List Int} (h : Bs w (some ⟨b, o, none⟩) n cap xs) (hpq : p + q ≤ n) : Bs w (some ⟨b, o + p, none⟩) q (cap - p) ((xs.drop p).take q) := by
  obtain ⟨_, hl, hc, hby, h⟩ := h
  refine ⟨(fun h => by cases h), by simp; omega, by omega, fun x hx => hby x (List.mem_of_mem_drop (List.mem_of_mem_take hx)), ?_⟩
  by_cases hq : q = 0
  · exact .inl hq
  rcases h with h | ⟨b', o', ha, hb, hcell⟩
  · exact .inl (by omega)
  · simp only [Option.some.injEq, Addr.mk.injEq, and_true] at ha
    obtain ⟨rfl, rfl⟩ := ha
    refine .inr ⟨b, o + p, rfl, hb, fun j hj => ?_⟩
    rw [Nat.add_assoc, hcell (p + j) (by omega)]
    simp [hj]

theorem getT_no (xs : List Int) (P : Int) (h : (getN xs P).2 < 0 ∨ 64 < (getN xs P).1 ∨ (xs.length : Int) - (getN xs P).2 < (getN xs P).1) : getT xs P = ([], -1) := by unfold getT; rw [if_pos h]
theorem getT_yes (xs : List Int) (P : Int) (p q : Nat) (hp : getN xs P = ((q : Int), (p : Int))) (h1 : q ≤ 64) (h2 : p + q ≤ xs.length) : getT xs P = ((xs.drop p).take q, (p : Int) + q) := by
  unfold getT; rw [hp, if_neg (by simp only; omega)]; simp

theorem tup_bs {v : Value} {a b : Int} (h : a = b) : Ending.returned (.tuple #[v, .int .i64 a]) = .returned (.tuple #[v, .int .i64 b]) := by rw [h]

set_option maxHeartbeats 1000000 in
theorem specGetT (a : Option Addr) (n c : Nat) (xs : List Int) (P : Int) (w : World) (h : Bs w a n c xs) (hn : n ≤ 1048576) (hP : P ≤ 9223372036854775807) :
    Calls Try.prog 40 #[.slice a n c, .int .i64 P] w fun e w' => ∃ v, e = .returned (.tuple #[v, .int .i64 (getT xs P).2]) ∧ w'.ownsRow w.heap.size 5 1 v (getT xs P).1.length (U8 (getT xs P).1) ∧ Below w.heap.size w w' := by
  have hl := h.2.1
  have hg := specGet a n c xs P w h (by omega) hP
  have hbd := getN_bounds xs P h.2.2.2.1
  have HG : Hid _ := hg
  clear hg hP
  by_cases hno : (getN xs P).2 < 0 ∨ 64 < (getN xs P).1 ∨ (xs.length : Int) - (getN xs P).2 < (getN xs P).1
  · rw [getT_no xs P hno, hl] at *
    clear h
    generalize getN xs P = r at HG hno hbd
    obtain ⟨r1, r2⟩ := r
    simp only [Prod.mk.injEq] at hno HG hbd
    rw [hl] at hbd
    have hr2 : r2 ≤ n := by omega
    have hr1 : r1 ≤ 2147483647 := by omega
    clear hbd
    rcases hno with hc | hc
    · go_enter Try.func40, Try.ntmps40
      go_wp2_with fail
      refine Calls.mono HG.out ?_
      rintro e w1 ⟨rfl, rfl⟩
      go_wp2
      go_ret2
      exact ⟨_, rfl, World.ownsRow_nil _ _ _ _, Below.refl _ _⟩
    by_cases hz : r2 < 0
    · go_enter Try.func40, Try.ntmps40
      go_wp2_with fail
      refine Calls.mono HG.out ?_
      rintro e w1 ⟨rfl, rfl⟩
      go_wp2
      go_ret2
      exact ⟨_, rfl, World.ownsRow_nil _ _ _ _, Below.refl _ _⟩
    by_cases hz2 : 64 < r1
    · go_enter Try.func40, Try.ntmps40
      go_wp2_with fail
      refine Calls.mono HG.out ?_
      rintro e w1 ⟨rfl, rfl⟩
      go_wp2
      go_ret2
      exact ⟨_, rfl, World.ownsRow_nil _ _ _ _, Below.refl _ _⟩
    · have hz3 : (n : Int) - r2 < r1 := by omega
      clear hc
      go_enter Try.func40, Try.ntmps40
      go_wp2_with fail
      refine Calls.mono HG.out ?_
      rintro e w1 ⟨rfl, rfl⟩
      go_wp2
      go_ret2
      exact ⟨_, rfl, World.ownsRow_nil _ _ _ _, Below.refl _ _⟩
  · rcases hbd with hbd | ⟨r0, r1, r2, r3⟩
    · rw [hbd] at hno; simp at hno
    obtain ⟨q, hq⟩ := Int.eq_ofNat_of_zero_le r0
    obtain ⟨p, hp⟩ := Int.eq_ofNat_of_zero_le (show 0 ≤ (getN xs P).2 by omega)
    have hr : getN xs P = ((q : Int), (p : Int)) := by rw [← hq, ← hp]
    rw [hr] at hno r0 r1 r2 r3
    simp only at hno r0 r1 r2 r3
    have q64 : q ≤ 64 := by omega
    have hpq : p + q ≤ n := by omega
    have hp1 : 1 ≤ p := by omega
    have hres := getT_yes xs P p q hr q64 (by omega)
    rw [hres]
    have hlen : ((xs.drop p).take q).length = q := by simp; omega
    rw [hr] at HG
    simp only at HG ⊢
    rw [hlen]
    clear hres hr hq hp hno r0 r1 r2 r3
    have h' := h
    obtain ⟨_, _, hnc, _, hh⟩ := h'
    rcases hh with hh | ⟨b, o, rfl, _, _⟩
    · omega
    have e1 : (p : Int) + (q : Int) - (p : Int) = (q : Int) := by omega
    by_cases hcp : c = p
    · have hq0 : q = 0 := by omega
      subst hq0
      subst hcp
      have hB : Bs w (some ⟨b, o, none⟩) 0 0 [] := ⟨(fun h => by cases h), rfl, by omega, by simp, .inl rfl⟩
      have hB2 : Bs (w.alloc (Obj.cells #[] 5)) (some ⟨b, o, none⟩) 0 0 [] := hB.below ((Below.refl _ _).alloc (Nat.le_refl _) _)
      clear h hlen
      go_enter Try.func40, Try.ntmps40
      go_wp2_with fail
      refine Calls.mono HG.out ?_
      rintro e w1 ⟨rfl, hw1⟩
      have hw2 := hw1.symm
      subst hw2
      clear HG
      go_wp2_with (at_builtin; refine wpl_append_bs rfl _ _ rfl w.heap.size _ 0 [] rfl (some ⟨b, o, none⟩) 0 0 [] rfl ?_ hB2 ?_ ?_ ?_)
      · exact World.ownsRow_made w #[] 0 (Nat.le_refl _) (by unfold maxLen; omega) rfl
      · omega
      · simp
      intro v1 w1 hown1 hgrow1 _
      have hbel1 : Below w.heap.size w w1 := ((Below.refl _ _).alloc (Nat.le_refl _) _).grown hgrow1 (by simp) (by intro k hk; simp [Value.ownBlock] at hk; omega)
      clear hgrow1 hB hB2
      go_wp2
      go_ret2
      exact ⟨_, rfl, by simpa using hown1, hbel1⟩
    · have hB := h.cut hpq
      generalize (xs.drop p).take q = ys at hB hlen ⊢
      have hB2 : Bs (w.alloc (Obj.cells #[] 5)) (some ⟨b, o + p, none⟩) (p + q - p) (c - p) ys := by rw [Nat.add_sub_cancel_left]; exact hB.below ((Below.refl _ _).alloc (Nat.le_refl _) _)
      clear h
      go_enter Try.func40, Try.ntmps40
      go_wp2_with fail
      refine Calls.mono HG.out ?_
      rintro e w1 ⟨rfl, hw1⟩
      have hw2 := hw1.symm
      subst hw2
      clear HG
      go_wp2_with (at_builtin; refine wpl_append_bs rfl _ _ rfl w.heap.size _ 0 [] rfl (some ⟨b, o + p, none⟩) (p + q - p) (c - p) ys rfl ?_ hB2 ?_ ?_ ?_)
      · exact World.ownsRow_made w #[] 0 (Nat.le_refl _) (by unfold maxLen; omega) rfl
      · omega
      · simp
      intro v1 w1 hown1 hgrow1 _
      have hbel1 : Below w.heap.size w w1 := ((Below.refl _ _).alloc (Nat.le_refl _) _).grown hgrow1 (by simp) (by intro k hk; simp [Value.ownBlock] at hk; omega)
      clear hgrow1 hB hB2
      go_wp2
      go_ret2
      exact ⟨_, rfl, by simpa using hown1, hbel1⟩

set_option maxHeartbeats 1000000 in
theorem implGetT (a : Option Addr) (n c : Nat) (xs : List Int) (P : Int) (w : World) (h : Bs w a n c xs) (hn : n ≤ 1048576) (hP : P ≤ 9223372036854775807) :
    Calls Try.prog 20 #[.slice a n c, .int .i64 P] w fun e w' => ∃ v, e = .returned (.tuple #[v, .int .i64 (getT xs P).2]) ∧ w'.ownsRow w.heap.size 5 1 v (getT xs P).1.length (U8 (getT xs P).1) ∧ Below w.heap.size w w' := by
  have hl := h.2.1
  have hg := implGet a n c xs P w h (by omega) hP
  have hbd := getN_bounds xs P h.2.2.2.1
  have HG : Hid _ := hg
  clear hg hP
  by_cases hno : (getN xs P).2 < 0 ∨ 64 < (getN xs P).1 ∨ (xs.length : Int) - (getN xs P).2 < (getN xs P).1
  · rw [getT_no xs P hno, hl] at *
    clear h
    generalize getN xs P = r at HG hno hbd
    obtain ⟨r1, r2⟩ := r
    simp only [Prod.mk.injEq] at hno HG hbd
    rw [hl] at hbd
    have hr2 : r2 ≤ n := by omega
    have hr1 : r1 ≤ 2147483647 := by omega
    clear hbd
    rcases hno with hc | hc
    · go_enter Try.func20, Try.ntmps20
      go_wp2_with fail
      refine Calls.mono HG.out ?_
      rintro e w1 ⟨rfl, rfl⟩
      go_wp2
      go_ret2
      exact ⟨_, rfl, World.ownsRow_nil _ _ _ _, Below.refl _ _⟩
    by_cases hz : r2 < 0
    · go_enter Try.func20, Try.ntmps20
      go_wp2_with fail
      refine Calls.mono HG.out ?_
      rintro e w1 ⟨rfl, rfl⟩
      go_wp2
      go_ret2
      exact ⟨_, rfl, World.ownsRow_nil _ _ _ _, Below.refl _ _⟩
    by_cases hz2 : 64 < r1
    · go_enter Try.func20, Try.ntmps20
      go_wp2_with fail
      refine Calls.mono HG.out ?_
      rintro e w1 ⟨rfl, rfl⟩
      go_wp2
      go_ret2
      exact ⟨_, rfl, World.ownsRow_nil _ _ _ _, Below.refl _ _⟩
    · have hz3 : (n : Int) - r2 < r1 := by omega
      clear hc
      go_enter Try.func20, Try.ntmps20
      go_wp2_with fail
      refine Calls.mono HG.out ?_
      rintro e w1 ⟨rfl, rfl⟩
      go_wp2
      go_ret2
      exact ⟨_, rfl, World.ownsRow_nil _ _ _ _, Below.refl _ _⟩
  · rcases hbd with hbd | ⟨r0, r1, r2, r3⟩
    · rw [hbd] at hno; simp at hno
    obtain ⟨q, hq⟩ := Int.eq_ofNat_of_zero_le r0
    obtain ⟨p, hp⟩ := Int.eq_ofNat_of_zero_le (show 0 ≤ (getN xs P).2 by omega)
    have hr : getN xs P = ((q : Int), (p : Int)) := by rw [← hq, ← hp]
    rw [hr] at hno r0 r1 r2 r3
    simp only at hno r0 r1 r2 r3
    have q64 : q ≤ 64 := by omega
    have hpq : p + q ≤ n := by omega
    have hp1 : 1 ≤ p := by omega
    have hres := getT_yes xs P p q hr q64 (by omega)
    rw [hres]
    have hlen : ((xs.drop p).take q).length = q := by simp; omega
    rw [hr] at HG
    simp only at HG ⊢
    rw [hlen]
    clear hres hr hq hp hno r0 r1 r2 r3
    have h' := h
    obtain ⟨_, _, hnc, _, hh⟩ := h'
    rcases hh with hh | ⟨b, o, rfl, _, _⟩
    · omega
    have e1 : (p : Int) + (q : Int) - (p : Int) = (q : Int) := by omega
    by_cases hcp : c = p
    · have hq0 : q = 0 := by omega
      subst hq0
      subst hcp
      have hB : Bs w (some ⟨b, o, none⟩) 0 0 [] := ⟨(fun h => by cases h), rfl, by omega, by simp, .inl rfl⟩
      clear h hlen
      go_enter Try.func20, Try.ntmps20
      go_wp2_with fail
      refine Calls.mono HG.out ?_
      rintro e w1 ⟨rfl, hw1⟩
      have hw2 := hw1.symm
      subst hw2
      clear HG
      go_wp2_with fail
      refine (cloneB (some ⟨b, o, none⟩) 0 0 [] _ hB (by omega)).mono ?_
      rintro e w1 ⟨v1, rfl, hown1, hbel1⟩
      clear hB
      go_wp2
      go_ret2
      exact ⟨_, rfl, by simpa using hown1, hbel1⟩
    · have hB := h.cut hpq
      generalize (xs.drop p).take q = ys at hB hlen ⊢
      clear h
      go_enter Try.func20, Try.ntmps20
      go_wp2_with fail
      refine Calls.mono HG.out ?_
      rintro e w1 ⟨rfl, hw1⟩
      have hw2 := hw1.symm
      subst hw2
      clear HG
      go_wp2_with fail
      refine (cloneB (some ⟨b, o + p, none⟩) q (c - p) ys _ hB (by omega)).mono ?_
      rintro e w1 ⟨v1, rfl, hown1, hbel1⟩
      clear hB
      go_wp2
      go_ret2
      exact ⟨_, rfl, hown1, hbel1⟩

end Go.Proofs.Ytjgoliajgfeehaa

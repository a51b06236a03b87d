/-
  What is proved here: contracts of the specification's l7clamp and Clamp.
-/
import Derived.Test.YtihoaakbkffejaaVa
import Derived.Test.YtihoaakbkffejaaApp
import Derived.Deep.CutRange
namespace Go.Proofs.Ytihoaakbkffejaa
open Go.RowKit
set_option maxRecDepth 100000

theorem infoV : (Try.prog.info? 31).map (·.size) = some 16 := by kernel_rfl
theorem infoV' {l : List Int} (h : l.length = 16) : (Try.prog.info? 31).map (·.size) = some (I64 l).toArray.size := by simpa [h] using infoV
/-- A number is laid into a new cell. -/
theorem laid_v (w1 : World) (L : List Int) : Below w1.heap.size w1 ((w1.alloc (.cells #[.int .i64 0, .int .i64 0, .int .i64 0, .int .i64 0, .int .i64 0, .int .i64 0, .int .i64 0, .int .i64 0, .int .i64 0, .int .i64 0, .int .i64 0, .int .i64 0, .int .i64 0, .int .i64 0, .int .i64 0, .int .i64 0] 31)).setRow w1.heap.size (I64 L).toArray) ∧ Arr ((w1.alloc (.cells #[.int .i64 0, .int .i64 0, .int .i64 0, .int .i64 0, .int .i64 0, .int .i64 0, .int .i64 0, .int .i64 0, .int .i64 0, .int .i64 0, .int .i64 0, .int .i64 0, .int .i64 0, .int .i64 0, .int .i64 0, .int .i64 0] 31)).setRow w1.heap.size (I64 L).toArray) w1.heap.size 31 (I64 L) ∧ Arr (w1.alloc (.cells #[.int .i64 0, .int .i64 0, .int .i64 0, .int .i64 0, .int .i64 0, .int .i64 0, .int .i64 0, .int .i64 0, .int .i64 0, .int .i64 0, .int .i64 0, .int .i64 0, .int .i64 0, .int .i64 0, .int .i64 0, .int .i64 0] 31)) w1.heap.size 31 (I64 Z16) := by
  have q : Arr (w1.alloc (.cells #[.int .i64 0, .int .i64 0, .int .i64 0, .int .i64 0, .int .i64 0, .int .i64 0, .int .i64 0, .int .i64 0, .int .i64 0, .int .i64 0, .int .i64 0, .int .i64 0, .int .i64 0, .int .i64 0, .int .i64 0, .int .i64 0] 31)) w1.heap.size 31 (I64 Z16) := Arr.new w1 (I64 Z16) _
  exact ⟨setRow_below ((Below.refl _ _).alloc (Nat.le_refl _) _) _ _ (Nat.le_refl _), q.row _, q⟩

set_option maxHeartbeats 2000000 in
theorem specClamp16 (a : Option Addr) (c : Nat) (bs : List Int) (w : World) (hx : Bs w a 32 c bs) :
    Calls Try.prog 11 #[.slice a 32 c] w fun e w' => e = .returned (.agg (I64 (clL (rdL bs))).toArray) ∧ Below w.heap.size w w' := by
  have hm : Lm (rdL bs) := rdL_lm hx.2.2.2.1
  have hl := rdL_len bs
  have HR : Hid (∀ (Z : World), Bs Z a 32 c bs → Calls Try.prog 13 #[.slice a 32 c] Z fun e w' => e = .returned (.agg (I64 (rdL bs)).toArray) ∧ Below Z.heap.size Z w') := by unfold Hid; intro Z h; exact specRead16 a c bs Z h
  obtain ⟨R, hR⟩ : ∃ R, R = rdL bs := ⟨_, rfl⟩
  rw [← hR] at hm hl HR ⊢
  clear hR
  obtain ⟨x, ex⟩ : ∃ x, x = R.getD 0 0 := ⟨_, rfl⟩
  obtain ⟨y, ey⟩ : ∃ y, y = R.getD 15 0 := ⟨_, rfl⟩
  have bx := gD_lm hm 0
  have b15 := gD_lm hm 15
  rw [← ex] at bx
  rw [← ey] at b15
  have a1 := and_65528 bx.1 bx.2
  have a2 := top_16384 b15.1 b15.2
  obtain ⟨C, hC⟩ : ∃ C, C = clL R := ⟨_, rfl⟩
  have HC : Hid (((I64 R).set 0 (.int .i64 (x / 8 * 8))).set 15 (.int .i64 (y % 16384 + 16384)) = I64 C) := by
    unfold Hid; rw [hC, ex, ey]; simp only [clL, I64, List.map_set]
  have hCl : C.length = 16 := by rw [hC]; exact clL_len hl
  rw [← hC]
  clear hC
  have jR := infoV' hl
  have jC := infoV' hCl
  obtain ⟨W, hW⟩ : ∃ W, W = w.alloc (.cells #[.int .i64 0, .int .i64 0, .int .i64 0, .int .i64 0, .int .i64 0, .int .i64 0, .int .i64 0, .int .i64 0, .int .i64 0, .int .i64 0, .int .i64 0, .int .i64 0, .int .i64 0, .int .i64 0, .int .i64 0, .int .i64 0] 31) := ⟨_, rfl⟩
  have B : Below w.heap.size w W := by rw [hW]; exact (Below.refl _ _).alloc (Nat.le_refl _) _
  have p2 : Arr W w.heap.size 31 (I64 Z16) := by rw [hW]; exact Arr.new _ (I64 Z16) _
  have hxW := hx.below B
  clear hx
  go_enter Try.func11, Try.ntmps11
  go_upto_region 1 with fail
  rw [← hW]
  clear hW
  go_wp2_with fail
  refine (HR.out _ hxW).mono ?_
  rintro e y1 ⟨rfl, hb1⟩
  replace B := B.trans (hb1.mono B.size)
  replace p2 := p2.kept hb1
  clear hb1 hxW
  have hX : w.heap.size < y1.heap.size := p2.lt
  obtain ⟨bV, A, q1⟩ := laid_v y1 R
  replace B := B.trans (bV.mono B.size)
  replace p2 := p2.kept bV
  go_upto_region 2 with (refine wpList_store_row rfl 31 _ _ rfl y1.heap.size (I64 R).toArray rfl rfl 31 _ q1 jR (by simp [hl]) (by simp [Value.oneCell']) ?_)
  obtain ⟨V, hV⟩ : ∃ V, V = (y1.alloc (.cells #[.int .i64 0, .int .i64 0, .int .i64 0, .int .i64 0, .int .i64 0, .int .i64 0, .int .i64 0, .int .i64 0, .int .i64 0, .int .i64 0, .int .i64 0, .int .i64 0, .int .i64 0, .int .i64 0, .int .i64 0, .int .i64 0] 31)).setRow y1.heap.size (I64 R).toArray := ⟨_, rfl⟩
  obtain ⟨X, hE⟩ : ∃ E, E = y1.heap.size := ⟨_, rfl⟩
  rw [← hV] at B p2 A ⊢
  rw [← hE] at A hX ⊢
  clear hV hE q1 bV
  have c0 : V.cell? ⟨X, 0, none⟩ = some (.int .i64 x) := by rw [A.i64 0 (by omega), ex]
  have fz := A.frozen 0
  have A' := A.set 0 (.int .i64 (x / 8 * 8))
  have p2' := p2.other ⟨X, 0, none⟩ (.int .i64 (x / 8 * 8)) (by show w.heap.size ≠ X; omega)
  have B' := B.setCell (p := ⟨X, 0, none⟩) (by show w.heap.size ≤ X; omega) (.int .i64 (x / 8 * 8))
  clear ex
  go_upto_region 3 with fail
  obtain ⟨V1, hV1⟩ : ∃ Z, Z = V.setCell ⟨X, 0, none⟩ (.int .i64 (x / 8 * 8)) := ⟨_, rfl⟩
  rw [← hV1] at A' p2' B' ⊢
  have c15 : V1.cell? ⟨X, 15, none⟩ = some (.int .i64 y) := by rw [A'.cell 15]; simp [hl, ey]
  have fz1 := A'.frozen 15
  have A2 := A'.set 15 (.int .i64 (y % 16384 + 16384))
  have p22 := p2'.other ⟨X, 15, none⟩ (.int .i64 (y % 16384 + 16384)) (by show w.heap.size ≠ X; omega)
  have B2 := B'.setCell (p := ⟨X, 15, none⟩) (by show w.heap.size ≤ X; omega) (.int .i64 (y % 16384 + 16384))
  clear hV1 c0 fz A p2 B A' p2' B' ey
  go_upto_region 4 with fail
  obtain ⟨V2, hV2⟩ : ∃ Z, Z = V1.setCell ⟨X, 15, none⟩ (.int .i64 (y % 16384 + 16384)) := ⟨_, rfl⟩
  rw [← hV2] at A2 p22 B2 ⊢
  clear hV2 c15 fz1
  rw [HC.out] at A2
  have h2 := p22.row (I64 C)
  have HB : Hid _ := setRow_below B2 w.heap.size (I64 C).toArray (Nat.le_refl _)
  go_wp2_with (first
    | (refine wpList_load_row rfl 31 _ rfl X rfl 31 (I64 C).toArray (0, 0) _ A2 Try.underlying31 rfl jC ?_)
    | (refine wpList_store_row rfl 31 _ _ rfl w.heap.size (I64 C).toArray rfl rfl 31 _ p22 jC (by simp [hCl]) (by simp [Value.oneCell']) ?_))
  exact bodyPost_ret (results_cell_row rfl _ _ w.heap.size 31 (I64 C).toArray (0, 0) _ rfl h2 Try.underlying31 rfl jC) rfl ⟨rfl, HB.out⟩

set_option maxHeartbeats 2000000 in
theorem specClamp (a : Option Addr) (n c : Nat) (bs : List Int) (w : World) (hx : Bs w a n c bs) :
    Calls Try.prog 4 #[.slice a n c] w fun e w' => ∃ v, e = .returned (.tuple #[v, .bool (cpOk bs)]) ∧ w'.ownsRow w.heap.size 5 1 v (cpL bs).length (U8 (cpL bs)) ∧ Below w.heap.size w w' := by
  have hn : bs.length = n := hx.2.1
  by_cases h : n = 32
  · subst h
    have hok : cpOk bs = true := by unfold cpOk; exact decide_eq_true hn
    have hL : cpL bs = clB bs := by unfold cpL; rw [if_pos hok]
    rw [hok, hL, clB_len, hn]
    have HC : Hid (∀ (Z : World), Bs Z a 32 c bs → Calls Try.prog 11 #[.slice a 32 c] Z fun e w' => e = .returned (.agg (I64 (clL (rdL bs))).toArray) ∧ Below Z.heap.size Z w') := by unfold Hid; intro Z h; exact specClamp16 a c bs Z h
    have HB : Hid (∀ (Z : World), Calls Try.prog 10 #[.agg (I64 (clL (rdL bs))).toArray] Z fun e w' => ∃ v, e = .returned v ∧ w'.ownsRow Z.heap.size 5 1 v 32 (U8 (clB bs)) ∧ Below Z.heap.size Z w') := by
      unfold Hid; intro Z; rw [← btL_clL hn hx.2.2.2.1]; exact specBytes16 _ Z (clL_len (rdL_len _)) (clL_lm (rdL_lm hx.2.2.2.1))
    clear hok hL
    go_enter Try.func4, Try.ntmps4
    go_wp2_with fail
    refine (HC.out _ hx).mono ?_
    rintro e y1 ⟨rfl, hb1⟩
    go_wp2_with fail
    refine (HB.out _).mono ?_
    rintro e y2 ⟨v, rfl, ho, hb2⟩
    go_wp2
    go_ret2
    exact ⟨v, rfl, own_base ho hb1.size, hb1.trans (hb2.mono hb1.size)⟩
  · have hok : cpOk bs = false := by unfold cpOk; exact decide_eq_false (by omega)
    have hL : cpL bs = [] := by unfold cpL; rw [if_neg (by simp [hok])]
    rw [hok, hL]
    have hne : ((n : Int) != 32) = true := by simp; omega
    go_enter Try.func4, Try.ntmps4
    go_wp2
    go_ret2
    exact ⟨_, rfl, World.ownsRow_nil _ _ _ _, Below.refl _ _⟩
end Go.Proofs.Ytihoaakbkffejaa

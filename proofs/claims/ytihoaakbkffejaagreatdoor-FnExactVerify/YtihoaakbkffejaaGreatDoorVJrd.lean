/-
  What is proved here: the contracts of the program's limbsRead and bytes: limbs out of 32 bytes; the contract of the program's ScRead; what a function of two multipliers answers, as a plain function; the contracts of the program's multipliersOf, ScAdd and ScMul; contracts of the program's methods sum and orderSettled: the sum of two; the contracts of the program's ScAdd and ScMul: the sum and the product of; an append of zeros onto a row of bytes that the call itself owns; the bytes of one, as the laws make them; what the program's PtMul, PtBase, ScRead (of one) and ScAdd answer where; plain facts on points in bytes, on multiples of the base, and what keys; the contract of the specification's l7clamp; the contract of the specification's PubOf.
-/
import Derived.Test.YtihoaakbkffejaaGreatDoorVJa
import Derived.Test.YtihoaakbkffejaaGreatDoorVFu
import Derived.Test.YtihoaakbkffejaaGreatDoorVJc
import Derived.Test.YtihoaakbkffejaaGreatDoorVFm
import Derived.Test.YtihoaakbkffejaaGreatDoorVHbt
import Derived.Test.YtihoaakbkffejaaGreatDoorVUff
import Derived.Test.YtihoaakbkffejaaGreatDoorVQb
import Derived.Test.YtihoaakbkffejaaGreatDoorVJg
import Derived.Test.YtihoaakbkffejaaGreatDoorVKe
import Derived.Test.YtihoaakbkffejaaGreatDoorVOf
import Derived.Test.YtihoaakbkffejaaGreatDoorVUc
import Derived.Lib.AppendZerosOnto
import Derived.Maps.AppendAt
import Derived.Test.YtihoaakbkffejaaGreatDoorVOha
import Derived.Test.YtihoaakbkffejaaGreatDoorVWy
import Derived.Deep.CutRange
namespace Go.Proofs.YtihoaakbkffejaaGreatDoor
open Go.RowKit
set_option maxRecDepth 100000

def rdP (bs : List Int) (k : Nat) : List Int := (List.range 16).map fun i => (if 2 * i < k then bs.getD (2 * i) 0 else 0) + 256 * (if 2 * i + 1 < k then bs.getD (2 * i + 1) 0 else 0)
theorem rdP_len (bs : List Int) (k : Nat) : (rdP bs k).length = 16 := by simp [rdP]
theorem rdP_zero (bs : List Int) : rdP bs 0 = Z16 := by simp [rdP]; rfl
theorem rdP_end (bs : List Int) : rdP bs 32 = rdL bs := by
 unfold rdP rdL
 apply List.map_congr_left
 intro i hi
 have := List.mem_range.1 hi
 rw [if_pos (by omega), if_pos (by omega)]
theorem rdP_get (bs : List Int) (k i : Nat) (h : i < 16) : (rdP bs k).getD i 0 = (if 2 * i < k then bs.getD (2 * i) 0 else 0) + 256 * (if 2 * i + 1 < k then bs.getD (2 * i + 1) 0 else 0) := by
 simp [rdP, h]
theorem rdP_set (bs : List Int) (k j : Nat) (hj : j = k / 2) (hk : k < 32) (v : Int) (hv : v = (rdP bs (k + 1)).getD j 0) : (I64 (rdP bs k)).set j (.int .i64 v) = I64 (rdP bs (k + 1)) := by
 rw [← List.map_set]
 congr 1
 have ge : ∀ m i, (rdP bs m)[i]? = if i < 16 then some ((rdP bs m).getD i 0) else none := by
  intro m i
  split
  ·rename_i h; rw [List.getD, List.getElem?_eq_getElem (by rw [rdP_len]; exact h)]; rfl
  ·rename_i h; rw [List.getElem?_eq_none (by rw [rdP_len]; omega)]
 apply List.ext_getElem?
 intro i
 rw [List.getElem?_set, ge, ge, rdP_len]
 by_cases e : j = i
 ·subst e
  rw [if_pos rfl, if_pos (by omega), if_pos (by omega), hv]
 ·rw [if_neg e]
  by_cases hi : i < 16
  ·rw [if_pos hi, if_pos hi, rdP_get bs k i hi, rdP_get bs (k + 1) i hi]
   have e1 : (2 * i < k) ↔ (2 * i < k + 1) := by omega
   have e2 : (2 * i + 1 < k) ↔ (2 * i + 1 < k + 1) := by omega
   simp only [e1, e2]
  ·rw [if_neg hi, if_neg hi]
theorem rdP_even (bs : List Int) (k j : Nat) (hj : k = 2 * j) (hk : k < 32) : (rdP bs k).getD j 0 = 0 ∧ (rdP bs (k + 1)).getD j 0 = bs.getD k 0 := by
 subst hj
 rw [rdP_get _ _ _ (by omega), rdP_get _ _ _ (by omega), if_neg (by omega), if_neg (by omega), if_pos (by omega), if_neg (by omega)]
 omega
theorem rdP_odd (bs : List Int) (k j : Nat) (hj : k = 2 * j + 1) (hk : k < 32) : (rdP bs k).getD j 0 = bs.getD (2 * j) 0 ∧ (rdP bs (k + 1)).getD j 0 = bs.getD (2 * j) 0 + 256 * bs.getD k 0 := by
 subst hj
 rw [rdP_get _ _ _ (by omega), rdP_get _ _ _ (by omega), if_pos (by omega), if_neg (by omega), if_pos (by omega), if_pos (by omega)]
 omega
def rdB (bs : List Int) : Bool := decide (bs.length = 32)
def rdZ (bs : List Int) : List Int := if rdB bs = true then rdL bs else Z16
theorem rdZ_len (bs : List Int) : (rdZ bs).length = 16 := by unfold rdZ; split <;> simp [rdL_len]
theorem or_zero {x : Int} (h0 : 0 ≤ x) (h1 : x < 256) : bits .or .i64 0 x = x := by
 have := bits_join .i64 63 (by decide) (fun n a b => by rw [IntKind.wrap_i64]; omega) 8 0 x (by omega) (by decide) (by decide) h0 (by omega) (by omega)
 rw [this]; omega
theorem or_high {x y : Int} (h0 : 0 ≤ x) (h1 : x < 256) (g0 : 0 ≤ y) (g1 : y < 256) : bits .or .i64 y (x * 256) = y + 256 * x := by
 have := bits_join .i64 63 (by decide) (fun n a b => by rw [IntKind.wrap_i64]; omega) 8 (x * 256) y (by omega) (by omega) (by omega) g0 (by omega) (by omega)
 have hc : bits .or .i64 y (x * 256) = bits .or .i64 (x * 256) y := by unfold bits; simp only [BitVec.or_comm]
 rw [hc, this]; omega

set_option maxHeartbeats 4000000 in
theorem implLimbsRead (a : Option Addr) (n c : Nat) (bs : List Int) (w : World) (hx : Bs w a n c bs) :
  Calls Tryz.prog 56 #[.slice a n c] w fun e w' => e = .returned (.tuple #[.agg (I64 (rdZ bs)).toArray, .bool (rdB bs)]) ∧ Below w.heap.size w w' := by
 obtain ⟨_, hl, hc, hr, hx⟩ := hx
 obtain ⟨L, hL⟩ : ∃ L, L = rdZ bs := ⟨_, rfl⟩
 obtain ⟨r, hrr⟩ : ∃ r, r = rdB bs := ⟨_, rfl⟩
 have HLr : Hid (L = if r = true then rdL bs else Z16) := by unfold Hid; rw [hL, hrr]; rfl
 have HRR : Hid _ := hrr
 rw [← hL, ← hrr]
 clear hL hrr
 obtain ⟨W, hW⟩ : ∃ W, W = (w.alloc (.cells #[.int .i64 0, .int .i64 0, .int .i64 0, .int .i64 0, .int .i64 0, .int .i64 0, .int .i64 0, .int .i64 0, .int .i64 0, .int .i64 0, .int .i64 0, .int .i64 0, .int .i64 0, .int .i64 0, .int .i64 0, .int .i64 0] 65)).alloc (.cells #[.int .i64 0, .int .i64 0, .int .i64 0, .int .i64 0, .int .i64 0, .int .i64 0, .int .i64 0, .int .i64 0, .int .i64 0, .int .i64 0, .int .i64 0, .int .i64 0, .int .i64 0, .int .i64 0, .int .i64 0, .int .i64 0] 65) := ⟨_, rfl⟩
 have g1 : Arr W w.heap.size 65 (I64 Z16) := by rw [hW]; exact (Arr.new w (I64 Z16) _).alloc _
 have g0 : Arr W (w.heap.size + 1) 65 (I64 Z16) := by
  rw [hW]
  have := Arr.new (w.alloc (.cells (I64 Z16).toArray 65)) (I64 Z16) 65
  rw [World.size_alloc] at this
  exact this
 have gB : Below w.heap.size w W := by rw [hW]; exact ((Below.refl _ _).alloc (Nat.le_refl _) _).alloc (by simp) _
 by_cases hn : n = 32
 rotate_left
 ·have hf : r = false := by rw [HRR.out]; unfold rdB; simp [show ¬ bs.length = 32 by omega]
  have HE : Hid (L = Z16) := by unfold Hid; rw [HLr.out, hf]; rfl
  have hn' : ((n : Int) != 32) = true := by simp; omega
  have hn'' : ¬ ((n : Int) = 32) := by omega
  have g0' := hW ▸ g0
  have g1' := hW ▸ g1
  have h2 := g1'.row (I64 Z16)
  have HB := setRow_below (hW ▸ gB) w.heap.size (I64 Z16).toArray (Nat.le_refl _)
  clear hx hr HRR HLr g0 g1 gB hW
  go_enter Tryz.func56, Tryz.ntmps56
  go_wp2_with (first
   | (refine wpList_load_row rfl 65 _ rfl (w.heap.size + 1) rfl 65 (I64 Z16).toArray (0, 0) _ g0' Tryz.underlying65 rfl infoL ?_)
   | (refine wpList_store_row rfl 65 _ _ rfl w.heap.size (I64 Z16).toArray rfl rfl 65 _ g1' infoL rfl (by simp [Value.oneCell']) ?_))
  exact bodyPost_ret (results_row_tmp (v := .bool false) (cs := I64 Z16) rfl rfl rfl h2 Tryz.underlying65 rfl infoL) rfl ⟨by first | rw [hf, HE.out] | rw [HE.out], HB⟩
 subst hn
 rcases hx with hx | ⟨b, o, rfl, hbs, hcell⟩
 ·omega
 have hr' := gD_u8 hr
 have HU8 : Hid _ := hr'
 clear hr hr'
 go_enter Tryz.func56, Tryz.ntmps56
 go_wp2
 rw [← hW]
 clear hW
 go_loopw [13] (fun i wr => ∃ k : Nat, k ≤ 32 ∧ i = .int .i64 k ∧ Arr wr (w.heap.size + 1) 65 (I64 (rdP bs k)) ∧ Arr wr w.heap.size 65 (I64 Z16) ∧ Below w.heap.size w wr) (fun i _ => 32 - (intOf i).toNat)
 case atStart => exact ⟨0, by omega, rfl, by rw [rdP_zero]; exact g0, g1, gB⟩
 case round =>
  clear g0 g1 gB
  obtain ⟨k, hk, rfl, g0, g1, gB⟩ := hrel
  have hPl := rdP_len bs k
  by_cases hlt : k < 32
  ·obtain ⟨x, hx⟩ : ∃ x, x = bs.getD k 0 := ⟨_, rfl⟩
   have hxb := HU8.out k
   rw [← hx] at hxb
   have hck : wr.cell? ⟨b, o + k, none⟩ = some (.int .u8 x) := by rw [hx]; exact (gB.cell (p := ⟨b, o + k, none⟩) hbs).trans (hcell k hlt)
   have hk32 : (k : Int) < 32 := by omega
   have hk0 : (0 : Int) ≤ (k : Int) := by omega
   obtain ⟨j, hj⟩ : ∃ j, j = k / 2 := ⟨_, rfl⟩
   have hj16 : j < 16 := by omega
   have q1 : (k : Int) / 2 = (j : Int) := by omega
   have q2 : (j : Int) < 16 := by omega
   have q3 : (0 : Int) ≤ (j : Int) := by omega
   have c1 : IntKind.i64.wrap x = x := by rw [IntKind.wrap_i64]; omega
   have hset := fun v hv => rdP_set bs k j hj hlt v hv
   have hfz := g0.frozen j
   by_cases hpar : k % 2 = 0
   ·obtain ⟨h1, h2⟩ := rdP_even bs k j (by omega) hlt
    rw [← hx] at h2
    have cz : wr.cell? ⟨w.heap.size + 1, j, none⟩ = some (.int .i64 0) := by rw [g0.i64 j (by omega), h1]
    have g0' := g0.set j (.int .i64 x)
    rw [hset x h2.symm] at g0'
    have g1' := g1.other ⟨w.heap.size + 1, j, none⟩ (.int .i64 x) (by simp)
    have gB' := gB.setCell (p := ⟨w.heap.size + 1, j, none⟩) (by simp) (.int .i64 x)
    have r1 : (k : Int) % 2 = 0 := by omega
    have o1 := or_zero hxb.1 hxb.2
    have H0 : Hid _ := g0'.drew
    have H1 : Hid _ := g1'.drew
    have HB : Hid _ := gB'.drew
    clear g0' g1' gB' g0 g1 gB hx hset h1 h2 hpar hcell hPl hj
    go_wp2
    go_region
    clear hck cz hfz
    go_wp2
    go_roundw
    case rel => exact ⟨k + 1, by omega, by go_num, H0.out, H1.out, HB.out⟩
    case measure => simp [intOf]; omega
   ·obtain ⟨h1, h2⟩ := rdP_odd bs k j (by omega) hlt
    obtain ⟨y, hy⟩ : ∃ y, y = bs.getD (2 * j) 0 := ⟨_, rfl⟩
    have hyb := HU8.out (2 * j)
    rw [← hy] at hyb h1 h2
    rw [← hx] at h2
    have cz : wr.cell? ⟨w.heap.size + 1, j, none⟩ = some (.int .i64 y) := by rw [g0.i64 j (by omega), h1]
    have g0' := g0.set j (.int .i64 (y + 256 * x))
    rw [hset _ h2.symm] at g0'
    have g1' := g1.other ⟨w.heap.size + 1, j, none⟩ (.int .i64 (y + 256 * x)) (by simp)
    have gB' := gB.setCell (p := ⟨w.heap.size + 1, j, none⟩) (by simp) (.int .i64 (y + 256 * x))
    have r1 : (k : Int) % 2 = 1 := by omega
    have o1 := or_high hxb.1 hxb.2 hyb.1 hyb.2
    have o2 : IntKind.i64.wrap (x * 256) = x * 256 := by rw [IntKind.wrap_i64]; omega
    have H0 : Hid _ := g0'.drew
    have H1 : Hid _ := g1'.drew
    have HB : Hid _ := gB'.drew
    clear g0' g1' gB' g0 g1 gB hx hy hset h1 h2 hpar hcell hPl hj
    go_wp2
    go_region
    clear hck cz hfz
    go_wp2
    go_roundw
    case rel => exact ⟨k + 1, by omega, by go_num, H0.out, H1.out, HB.out⟩
    case measure => simp [intOf]; omega
  ·obtain rfl : k = 32 := by omega
   rw [rdP_end] at g0
   have hRl := rdL_len bs
   have hf : r = true := by rw [HRR.out]; unfold rdB; simp [hl]
   have hE : L = rdL bs := by rw [HLr.out, hf]; rfl
   obtain ⟨R, hR⟩ : ∃ R, R = rdL bs := ⟨_, rfl⟩
   rw [← hR] at g0 hRl hE
   have hix : (Tryz.prog.info? 65).map (·.size) = some (I64 R).toArray.size := by simpa [hRl] using infoL
   have h2 := g1.row (I64 R)
   have HB := setRow_below gB w.heap.size (I64 R).toArray (Nat.le_refl _)
   have HE : Hid _ := hE
   have HF : Hid _ := hf
   clear hcell hPl hE hR hf
   go_wp2_with (first
    | (refine wpList_load_row rfl 65 _ rfl (w.heap.size + 1) rfl 65 (I64 R).toArray (0, 0) _ g0 Tryz.underlying65 rfl hix ?_)
    | (refine wpList_store_row rfl 65 _ _ rfl w.heap.size (I64 R).toArray rfl rfl 65 _ g1 hix (by simp [hRl]) (by simp [Value.oneCell']) ?_))
   exact bodyPost_ret (results_row_tmp (v := .bool true) (cs := I64 R) rfl rfl rfl h2 Tryz.underlying65 rfl (by simpa [hRl] using infoL)) rfl ⟨by rw [HF.out, HE.out], HB⟩

theorem Bs.two (w : World) (x y : Int) (h0 : 0 ≤ x) (h1 : x < 256) (g0 : 0 ≤ y) (g1 : y < 256) : Bs (w.alloc (.cells #[.int .u8 x, .int .u8 y] 5)) (some ⟨w.heap.size, 0, none⟩) 2 2 [x, y] := by
 refine ⟨(fun h => by cases h), rfl, Nat.le_refl _, ?_, .inr ⟨w.heap.size, 0, rfl, by simp, ?_⟩⟩
 ·intro z hz; simp at hz; omega
 ·intro j hj
  have : j = 0 ∨ j = 1 := by omega
  rcases this with rfl | rfl <;> (rw [World.cell?_alloc_at _ _ _ _ rfl]; rfl)

set_option maxHeartbeats 2000000 in
theorem implBytes (l : List Int) (w : World) (hl : l.length = 16) (hm : Lm l) :
  Calls Tryz.prog 43 #[.agg (I64 l).toArray] w fun e w' => ∃ v, e = .returned v ∧ w'.ownsRow w.heap.size 5 1 v 32 (U8 (btL l)) ∧ Below w.heap.size w w' := by
 obtain ⟨C, hC⟩ : ∃ C : Array Value, C = Array.replicate 32 (.int .u8 0) := ⟨_, rfl⟩
 have hCs : C.size = 32 * 1 := by rw [hC]; simp
 obtain ⟨W, hW⟩ : ∃ W, W = w.alloc (.cells (I64 l).toArray 65) := ⟨_, rfl⟩
 have g0 : Arr W w.heap.size 65 (I64 l) := by rw [hW]; exact Arr.new w (I64 l) _
 have gB : Below w.heap.size w W := by rw [hW]; exact (Below.refl _ _).alloc (Nat.le_refl _) _
 have gs : W.heap.size = w.heap.size + 1 := by rw [hW]; simp
 obtain ⟨A, hA⟩ : ∃ A, A = (I64 l).toArray := ⟨_, rfl⟩
 rw [← hA] at hW ⊢
 have hil : (Tryz.prog.info? 65).map (·.size) = some (I64 l).toArray.size := by simpa [hl] using infoL
 have hmk : ∀ Z : World, (Instr.makeSlice 22 (.int .i64 0) (.int .i64 32)).run Tryz.prog Z = .ok (.slice (some ⟨Z.heap.size, 0, none⟩) 0 32) (Z.alloc (.cells C 5)) := by
  intro Z
  obtain ⟨i0, hi, hz0, hz1, hz2⟩ := info_parts Tryz.info5
  have := run_make (P := Tryz.prog) Z 22 5 i0 (.int .u8 0) Tryz.underlying22 hi hz0 .i64 .i64 0 32 (by omega) (by omega) (by rw [hz2]; omega) (by omega)
  rw [this, hz1, show madeCells (Value.int .u8 0).cells (Int.toNat 32 * 1) = C by rw [hC]; kernel_rfl]
  rfl
 have o0 : (W.alloc (.cells C 5)).ownsRow (w.heap.size + 1) 5 1 (.slice (some ⟨W.heap.size, 0, none⟩) 0 32) 0 (U8 (btL (l.take 0))) := by
  have := World.ownsRow_made (base := w.heap.size + 1) (e := 5) (size := 1) W C 32 (by omega) (by unfold maxLen; omega) hCs
  simpa [btL] using this
 have g1 : Arr (W.alloc (.cells C 5)) w.heap.size 65 (I64 l) := g0.alloc _
 have gB1 : Below w.heap.size w (W.alloc (.cells C 5)) := gB.alloc gB.size _
 have gs1 : w.heap.size + 1 ≤ (W.alloc (.cells C 5)).heap.size := by simp [gs]
 rw [gs] at o0
 have g1' := hW ▸ g1
 have HW : Hid _ := hW
 clear hA hC hCs g0 gB gs hW
 go_enter Tryz.func43, Tryz.ntmps43
 go_wp2_with (refine wpList_load_row rfl 65 _ rfl w.heap.size rfl 65 (I64 l).toArray (0, 0) _ g1' Tryz.underlying65 rfl hil ?_)
 rw [← HW.out]
 clear g1' HW hmk
 obtain ⟨V, hV⟩ : ∃ V, V = W.alloc (.cells C 5) := ⟨_, rfl⟩
 rw [← hV] at o0 g1 gB1 gs1 ⊢
 clear hV
 go_loopw [3, 8] (fun v i wr => ∃ k : Nat, k ≤ 16 ∧ i = .int .i64 k ∧ wr.ownsRow (w.heap.size + 1) 5 1 v (2 * k) (U8 (btL (l.take k))) ∧ Below w.heap.size w wr ∧ w.heap.size + 1 ≤ wr.heap.size) (fun _ i _ => 16 - (intOf i).toNat)
 case atStart => exact ⟨0, by omega, rfl, o0, gB1, gs1⟩
 case round =>
  clear o0 g1 gB1 gs1
  obtain ⟨k, hk, rfl, hown, gB, gs⟩ := hrel
  by_cases hlt : k < 16
  ·have ix := fun w => index_arr Tryz.underlying65 Tryz.underlying3 infoL1 l hl k hlt w
   obtain ⟨x, hx⟩ : ∃ x, x = l.getD k 0 := ⟨_, rfl⟩
   rw [← hx] at ix
   have hxb := gD_lm hm k
   rw [← hx] at hxb
   obtain ⟨hx0, hx1⟩ := hxb
   have hnx := btL_snoc l k (by omega)
   rw [← hx] at hnx
   have HN : Hid _ := hnx
   clear hx hnx
   have s1 : IntKind.u8.wrap x = x % 256 := by rw [IntKind.wrap_u8]
   have s2 : IntKind.u8.wrap (x / 256) = x / 256 := by rw [IntKind.wrap_u8]; omega
   have hk16 : (k : Int) < 16 := by omega
   go_wp2_with (at_builtin; refine wpl_append_bs rfl _ _ rfl (w.heap.size + 1) _ (2 * k) (btL (l.take k)) rfl (some ⟨wr.heap.size, 0, none⟩) 2 2 [x % 256, x / 256] rfl (hown.alloc _) ?_ ?_ ?_ ?_)
   ·exact Bs.two _ _ _ (by omega) (by omega) (by omega) (by omega)
   ·omega
   ·first | omega | (simp; omega)
   intro v' w' h1 h2 _
   have hbA : Below (w.heap.size + 1) wr w' := ((Below.refl _ _).alloc (by omega) _).grown h2 (by simp; omega) (fun j hj => (hown.lt j hj).1)
   have gB' := gB.trans (hbA.mono (by omega))
   have gs' := Nat.le_trans gs hbA.size
   have HR : Hid (w'.ownsRow (w.heap.size + 1) 5 1 v' (2 * (k + 1)) (U8 (btL (l.take (k + 1))))) := by
    unfold Hid
    rw [HN.out, show 2 * (k + 1) = 2 * k + 2 by omega]; simpa using h1
   clear h1 h2 hown gB hbA HN ix
   go_wp2
   go_roundw
   case rel => exact ⟨k + 1, by omega, by go_num, HR.out, gB', gs'⟩
   case measure => simp [intOf]; omega
  ·obtain rfl : k = 16 := by omega
   rw [List.take_of_length_le (by omega)] at hown
   have HO : Hid _ := own_base hown (show w.heap.size ≤ w.heap.size + 1 by omega)
   clear hown
   go_wp2
   go_ret
   exact ⟨_, rfl, HO.out, gB⟩
theorem rdZ_lm {bs : List Int} (hb : ∀ x ∈ bs, 0 ≤ x ∧ x < 256) : Lm (rdZ bs) := by
 unfold rdZ
 split
 ·exact rdL_lm hb
 ·intro x hx
  have : x = 0 := by simpa using hx
  omega
theorem muB_rd (bs : List Int) : muB (rdZ bs) (rdB bs) = rdOkO bs := by
 unfold muB rdOkO rdB
 by_cases h : bs.length = 32
 ·have e : rdZ bs = rdL bs := by unfold rdZ rdB; rw [if_pos (by simp [h])]
  rw [e]
 ·simp [h]
theorem muL_rd {bs : List Int} (h : rdOkO bs = true) : muL (rdZ bs) (rdB bs) = rdFO bs := by
 unfold muL rdFO
 rw [muB_rd, if_pos h, if_pos h]
 have h2 : rdB bs = true := by unfold rdOkO at h; simp at h; unfold rdB; simp [h.1]
 unfold rdZ
 rw [if_pos h2]

structure S1r (w W : World) : Prop where
 fr : Below w.heap.size w W
 pr : Arr W w.heap.size 41 [.slice none 0 0]
theorem S1r.go {w A B : World} (h : S1r w A) (hb : Below A.heap.size A B) : S1r w B := ⟨h.fr.trans (hb.mono h.fr.size), h.pr.kept hb⟩

set_option maxHeartbeats 2000000 in
theorem implScRead (a : Option Addr) (n c : Nat) (bs : List Int) (w : World) (hx : Bs w a n c bs) (hV : Vr w 6 (I64 OL)) :
  Calls Tryz.prog 16 #[.slice a n c] w fun e w' => ∃ v, e = .returned (.tuple #[v, .bool (rdOkO bs)]) ∧ FeT 65 w w' v (rdFO bs) ∧ Below w.heap.size w w' := by
 obtain ⟨W, hW⟩ : ∃ W, W = w.alloc (.cells #[.slice none 0 0] 41) := ⟨_, rfl⟩
 have EE : S1r w W := by rw [hW]; exact ⟨(Below.refl _ _).alloc (Nat.le_refl _) _, Arr.new _ _ _⟩
 have HO := implLimbsRead a n c bs W (hx.below EE.fr)
 have gV := hV.kept EE.fr
 have hby := hx.2.2.2.1
 have HM : Hid (∀ Z, Vr Z 6 (I64 OL) → Calls Tryz.prog 58 #[.agg (I64 (rdZ bs)).toArray, .bool (rdB bs)] Z fun e w' => e = .returned (.tuple #[.agg (I64 (muL (rdZ bs) (rdB bs))).toArray, .bool (rdOkO bs)]) ∧ Below Z.heap.size Z w') := by
  unfold Hid; intro Z hZ
  have := implMuOf (rdZ bs) (rdB bs) Z (rdZ_len bs) (rdZ_lm hby) hZ
  rw [muB_rd] at this
  exact this
 have hSl : (muL (rdZ bs) (rdB bs)).length = 16 := muL_len (rdZ_len bs)
 obtain ⟨o, ho⟩ : ∃ o, o = rdOkO bs := ⟨_, rfl⟩
 obtain ⟨T, hT⟩ : ∃ T, T = rdFO bs := ⟨_, rfl⟩
 obtain ⟨L, hL⟩ : ∃ L, L = rdZ bs := ⟨_, rfl⟩
 obtain ⟨p, hp⟩ : ∃ p, p = rdB bs := ⟨_, rfl⟩
 obtain ⟨S, hS⟩ : ∃ S, S = muL (rdZ bs) (rdB bs) := ⟨_, rfl⟩
 have HT0 : Hid (o = false → T = []) := by unfold Hid; intro h; rw [hT]; unfold rdFO; rw [← ho, h]; rfl
 have HT1 : Hid (o = true → T = S) := by unfold Hid; intro h; rw [hT, hS]; exact (muL_rd (by rw [← ho]; exact h)).symm
 rw [← hS] at HM hSl
 rw [← hL, ← hp] at HO HM
 rw [← ho] at HM ⊢
 rw [← hT]
 have HO' : Hid (Calls Tryz.prog 56 #[.slice a n c] W fun e w' => e = .returned (.tuple #[.agg (I64 L).toArray, .bool p]) ∧ Below W.heap.size W w') := HO
 have his : (Tryz.prog.info? 92).map (·.size) = some (I64 S).toArray.size := by simpa [hSl] using infoM
 have hisl : (Tryz.prog.info? 65).map (·.size) = some (I64 S).toArray.size := by simpa [hSl] using infoL
 clear HO hL hp hS hx hV ho hT hby
 go_enter Tryz.func16, Tryz.ntmps16
 go_wp2_with fail
 rw [← hW]
 refine HO'.out.mono ?_
 rintro e w1 ⟨rfl, hb1⟩
 replace EE := EE.go hb1
 replace gV := gV.kept hb1
 clear hW hb1 HO'
 go_wp2_with fail
 refine (HM.out _ gV).mono ?_
 rintro e w2 ⟨rfl, hb2⟩
 replace EE := EE.go hb2
 obtain ⟨bV, pV, q1⟩ := laid_mu w2 S
 replace EE := EE.go bV
 clear gV hb2 bV HM
 cases o with
 | false =>
  have HE : Hid (T = []) := HT0.out rfl
  have hcr : ((w2.alloc (.cells #[.int .i64 0, .int .i64 0, .int .i64 0, .int .i64 0, .int .i64 0, .int .i64 0, .int .i64 0, .int .i64 0, .int .i64 0, .int .i64 0, .int .i64 0, .int .i64 0, .int .i64 0, .int .i64 0, .int .i64 0, .int .i64 0] 92)).setRow w2.heap.size (I64 S).toArray).cell? ⟨w.heap.size, 0, none⟩ = some (.slice none 0 0) := EE.pr.cell 0
  have hfr := EE.pr.frozen 0
  have HA : Hid _ := EE.pr.set 0 (.slice none 0 0)
  have HB : Hid _ := EE.fr.setCell (p := ⟨w.heap.size, 0, none⟩) (Nat.le_refl _) (.slice none 0 0)
  clear EE HT0 HT1 pV
  go_wp2_with (refine wpList_store_row rfl 92 _ _ rfl w2.heap.size (I64 S).toArray rfl rfl 92 _ q1 his (by simp [hSl]) (by simp [Value.oneCell']) ?_)
  exact bodyPost_ret (results_row_tmp (v := .bool false) (cs := [.slice none 0 0]) rfl rfl rfl HA.out Tryz.underlying41 rfl infoSc) rfl ⟨_, rfl, HE.out ▸ feT_nil _ _ _, HB.out⟩
 | true =>
  have HE : Hid (T = S) := HT1.out rfl
  clear HT0 HT1
  go_wp2_with (first
   | (refine wpList_store_row rfl 92 _ _ rfl w2.heap.size (I64 S).toArray rfl rfl 92 _ q1 his (by simp [hSl]) (by simp [Value.oneCell']) ?_)
   | (refine wpList_load_row rfl 65 _ rfl w2.heap.size rfl 92 (I64 S).toArray (0, 0) _ pV Tryz.underlying65 rfl hisl ?_))
  obtain ⟨V, hVV⟩ : ∃ V, V = (w2.alloc (.cells #[.int .i64 0, .int .i64 0, .int .i64 0, .int .i64 0, .int .i64 0, .int .i64 0, .int .i64 0, .int .i64 0, .int .i64 0, .int .i64 0, .int .i64 0, .int .i64 0, .int .i64 0, .int .i64 0, .int .i64 0, .int .i64 0] 92)).setRow w2.heap.size (I64 S).toArray := ⟨_, rfl⟩
  rw [← hVV] at EE ⊢
  clear hVV pV q1
  refine (implList S _ hSl).mono ?_
  rintro e w4 ⟨a', c', rfl, ho, hb4⟩
  have hlt := EE.pr.lt
  have hsz := EE.fr.size
  replace EE := EE.go hb4
  have HOW : Hid _ := own_base (own_otherS ho ⟨w.heap.size, 0, none⟩ (.slice a' 16 c') hlt) hsz
  have hcr : w4.cell? ⟨w.heap.size, 0, none⟩ = some (.slice none 0 0) := EE.pr.cell 0
  have hfr := EE.pr.frozen 0
  have HA : Hid _ := EE.pr.set 0 (.slice a' 16 c')
  have HB : Hid _ := EE.fr.setCell (p := ⟨w.heap.size, 0, none⟩) (Nat.le_refl _) (.slice a' 16 c')
  clear EE ho hb4 hsz hlt
  go_wp2
  exact bodyPost_ret (results_row_tmp (v := .bool true) (cs := [.slice a' 16 c']) rfl rfl rfl HA.out Tryz.underlying41 rfl infoSc) rfl ⟨_, rfl, HE.out ▸ feT_16 hSl HOW.out, HB.out⟩
structure P4 (w W : World) (va vb : Value) : Prop where
 fr : Below w.heap.size w W
 pa : Arr W w.heap.size 41 [va]
 pb : Arr W (w.heap.size + 1) 41 [vb]
 r1 : Arr W (w.heap.size + 2) 92 (I64 Z16)
 r2 : Arr W (w.heap.size + 3) 92 (I64 Z16)
 vr : Vr W 6 (I64 OL)
theorem P4.go {w A B : World} {va vb : Value} (h : P4 w A va vb) (hb : Below A.heap.size A B) : P4 w B va vb := ⟨h.fr.trans (hb.mono h.fr.size), h.pa.kept hb, h.pb.kept hb, h.r1.kept hb, h.r2.kept hb, h.vr.kept hb⟩
theorem P4.new {w : World} (va vb : Value) (h : Vr w 6 (I64 OL)) : P4 w ((((w.alloc (.cells #[va] 41)).alloc (.cells #[vb] 41)).alloc (.cells (I64 Z16).toArray 92)).alloc (.cells (I64 Z16).toArray 92)) va vb := by
 have b1 : Below w.heap.size w (w.alloc (.cells #[va] 41)) := (Below.refl _ _).alloc (Nat.le_refl _) _
 have b2 := b1.alloc (by simp) (.cells #[vb] 41)
 have b3 := b2.alloc (by simp; omega) (.cells (I64 Z16).toArray 92)
 have hb := b3.alloc (by simp; omega) (.cells (I64 Z16).toArray 92)
 refine ⟨hb, (((Arr.new w [va] _).alloc _).alloc _).alloc _, ?_, ?_, ?_, h.kept hb⟩
 ·have := ((Arr.new (w.alloc (.cells #[va] 41)) [vb] 41).alloc (.cells (I64 Z16).toArray 92)).alloc (.cells (I64 Z16).toArray 92)
  rw [World.size_alloc] at this
  exact this
 ·have := (Arr.new ((w.alloc (.cells #[va] 41)).alloc (.cells #[vb] 41)) (I64 Z16) 92).alloc (.cells (I64 Z16).toArray 92)
  rw [World.size_alloc, World.size_alloc] at this
  exact this
 ·have := Arr.new (((w.alloc (.cells #[va] 41)).alloc (.cells #[vb] 41)).alloc (.cells (I64 Z16).toArray 92)) (I64 Z16) 92
  rw [World.size_alloc, World.size_alloc, World.size_alloc] at this
  exact this
structure M4 (w W : World) (a b : List Int) : Prop where
 fr : Below w.heap.size w W
 pa : Arr W w.heap.size 92 (I64 a)
 pb : Arr W (w.heap.size + 1) 92 (I64 b)
 pr : Arr W (w.heap.size + 2) 92 (I64 Z16)
 vr : Vr W 6 (I64 OL)
 g0 : 6 < w.heap.size
theorem M4.go {w A B : World} {a b : List Int} (h : M4 w A a b) (hb : Below A.heap.size A B) : M4 w B a b := ⟨h.fr.trans (hb.mono h.fr.size), h.pa.kept hb, h.pb.kept hb, h.pr.kept hb, h.vr.kept hb, h.g0⟩
theorem M4.all {w W : World} {a b : List Int} (h : M4 w W a b) : W.rangeAt w.heap.size 0 (I64 a) ∧ W.rangeAt (w.heap.size + 1) 0 (I64 b) ∧ W.rangeAt 6 0 (I64 OL) := ⟨arr_range h.pa, arr_range h.pb, vr_range h.vr⟩
theorem M4.new {w : World} (a b : List Int) (h : Vr w 6 (I64 OL)) : M4 w (((w.alloc (.cells (I64 a).toArray 92)).alloc (.cells (I64 b).toArray 92)).alloc (.cells (I64 Z16).toArray 92)) a b := by
 have hb : Below w.heap.size w (((w.alloc (.cells (I64 a).toArray 92)).alloc (.cells (I64 b).toArray 92)).alloc (.cells (I64 Z16).toArray 92)) := (((Below.refl _ _).alloc (Nat.le_refl _) _).alloc (by simp) _).alloc (by simp; omega) _
 refine ⟨hb, ((Arr.new w (I64 a) _).alloc _).alloc _, ?_, ?_, h.kept hb, h.lt⟩
 ·have := (Arr.new (w.alloc (.cells (I64 a).toArray 92)) (I64 b) 92).alloc (.cells (I64 Z16).toArray 92)
  rw [World.size_alloc] at this
  exact this
 ·have := Arr.new ((w.alloc (.cells (I64 a).toArray 92)).alloc (.cells (I64 b).toArray 92)) (I64 Z16) 92
  rw [World.size_alloc, World.size_alloc] at this
  exact this
theorem M4.put {w W : World} {a b R : List Int} (h : M4 w W a b) (hR : R.length = 16) : Arr (W.setCells (w.heap.size + 1 + 1) 0 (I64 R)) (w.heap.size + 1 + 1) 92 (I64 R) ∧ Below w.heap.size w (W.setCells (w.heap.size + 1 + 1) 0 (I64 R)) ∧
  ((W.setCells (w.heap.size + 1 + 1) 0 (I64 R)).rangeAt w.heap.size 0 (I64 a) ∧ (W.setCells (w.heap.size + 1 + 1) 0 (I64 R)).rangeAt (w.heap.size + 1) 0 (I64 b) ∧ (W.setCells (w.heap.size + 1 + 1) 0 (I64 R)).rangeAt 6 0 (I64 OL)) ∧ W.there (w.heap.size + 1 + 1) 0 (I64 R).toArray.size := by
 have hg := h.pa.lt
 have h0 : 6 ≠ w.heap.size + 1 + 1 := by have := h.g0; omega
 exact ⟨Arr.setCells0 h.pr (by simp [hR]), setCells_below (by omega) _ _ h.fr, ⟨arr_range (Arr.setCellsO (by omega) _ _ h.pa), arr_range (Arr.setCellsO (by omega) _ _ h.pb), vr_range (Vr.setCellsO h0 h.vr)⟩, by have := arr_there h.pr; simpa [hR] using this⟩
theorem implLessO (x : Int) (w : World) (h0 : 0 ≤ x) (h1 : x < 2 * qO) :
  Calls Tryz.prog 126 #[.agg (I64 (lim 16 x)).toArray, .agg (I64 OL).toArray] w fun e w' => e = .returned (.agg (I64 (redO x)).toArray) ∧ Below w.heap.size w w' := by
 have := implLess (lim 16 x) OL w (lim_len _ _) OL_len (lim_lm _ _) OL_lm
 rw [val_lim16 h0 h1, OL_val] at this
 have hls := lessO h0 h1
 have e : lim 16 (if x < qO then x else x - qO) = redO x := by
  split
  ·rename_i h; exact hls.1 h
  ·rename_i h; exact hls.2 h
 rw [e] at this
 exact this
structure S3r (w W : World) (va vb : Value) : Prop where
 fr : Below w.heap.size w W
 pa : Arr W w.heap.size 41 [va]
 pb : Arr W (w.heap.size + 1) 41 [vb]
 pr : Arr W (w.heap.size + 2) 41 [.slice none 0 0]
 vr : Vr W 6 (I64 OL)
theorem S3r.go {w A B : World} {va vb : Value} (h : S3r w A va vb) (hb : Below A.heap.size A B) : S3r w B va vb := ⟨h.fr.trans (hb.mono h.fr.size), h.pa.kept hb, h.pb.kept hb, h.pr.kept hb, h.vr.kept hb⟩
theorem S3r.new {w : World} (va vb : Value) (h : Vr w 6 (I64 OL)) : S3r w (((w.alloc (.cells #[va] 41)).alloc (.cells #[vb] 41)).alloc (.cells #[.slice none 0 0] 41)) va vb := by
 have b1 : Below w.heap.size w (w.alloc (.cells #[va] 41)) := (Below.refl _ _).alloc (Nat.le_refl _) _
 have b2 := b1.alloc (by simp) (.cells #[vb] 41)
 have hb := b2.alloc (by simp; omega) (.cells #[.slice none 0 0] 41)
 refine ⟨hb, ((Arr.new w [va] _).alloc _).alloc _, ?_, ?_, h.kept hb⟩
 ·have := (Arr.new (w.alloc (.cells #[va] 41)) [vb] 41).alloc (.cells #[.slice none 0 0] 41)
  rw [World.size_alloc] at this
  exact this
 ·have := Arr.new ((w.alloc (.cells #[va] 41)).alloc (.cells #[vb] 41)) [.slice none 0 0] 41
  rw [World.size_alloc, World.size_alloc] at this
  exact this
set_option maxHeartbeats 4000000
set_option linter.unusedSectionVars false

theorem sc_int {l : List Int} (h : scOk l = true) : ∀ x ∈ l, -9223372036854775808 ≤ x ∧ x ≤ 9223372036854775807 := fun x hx => by have := ((scOk_iff l).1 h).2.1 x hx; omega
section
variable [NeZero pN]
end
def enc (p : KF × KF) : List Int := ptBt (cx p.1) (cx p.2)
theorem enc_len (p : KF × KF) : (enc p).length = 32 := ptBt_len (feOk_len (cx_ok _))
theorem enc_byte (p : KF × KF) : ∀ x ∈ enc p, 0 ≤ x ∧ x < 256 := ptBt_byte (cx_ok _)
section
variable [NeZero pN]
theorem ptBt_ext {P : E4} {p : KF × KF} (h : Ext6 P p) : ptBt (flx P) (fly P) = enc p := by
 obtain ⟨a, b⟩ := ext6_flat h
 unfold enc
 rw [a, b]
theorem ptBF_cx {p : KF × KF} (h : On dK p) : ptBF (cx p.1) (cx p.2) = enc p := by
 unfold ptBF
 rw [if_pos (pt_ok h), ptBt_ext (ext6_make _ _), fl_cx, fl_cx]
theorem ext6_base : Ext6 base6 baseK := by
 have h := ext6_make BX BY
 have b := base_lists
 have e : (fl BX, fl BY) = baseK := by rw [b.1, b.2, fl_cx, fl_cx]
 rw [e] at h
 exact h
theorem neg_add (P Q : KF × KF) : pNeg (pAdd dK ivK P Q) = pAdd dK ivK (pNeg P) (pNeg Q) := by
 have e : (0 - P.1) * (0 - Q.1) = P.1 * Q.1 := by grind
 have h1 : 0 - (P.1 * Q.2 + P.2 * Q.1) * ivK (1 + dK * (P.1 * Q.1 * P.2 * Q.2)) = ((0 - P.1) * Q.2 + P.2 * (0 - Q.1)) * ivK (1 + dK * (P.1 * Q.1 * P.2 * Q.2)) := by grind
 simp only [pNeg, pAdd, e, h1]
theorem mul_neg (P : KF × KF) : ∀ n, pMul dK ivK n (pNeg P) = pNeg (pMul dK ivK n P)
 | 0 => by
  show pZero = pNeg pZero
  have : (0 : KF) = 0 - 0 := (sub_nought 0).symm
  simp only [pZero, pNeg, ← this]
 | n + 1 => by
  show pAdd dK ivK (pMul dK ivK n (pNeg P)) (pNeg P) = pNeg (pAdd dK ivK (pMul dK ivK n P) P)
  rw [mul_neg P n, neg_add]
end
/-! What a seed comes to. -/
def sA (seed : List Int) : List Int := clL (rdL ((sumOfW seed).take 32))
def mS (xs : List Int) : List Int := redO (val (wdL (sumOfW xs)))
theorem take_byte {l : List Int} (h : ∀ x ∈ l, 0 ≤ x ∧ x < 256) (n : Nat) : ∀ x ∈ l.take n, 0 ≤ x ∧ x < 256 := fun x hx => h x (List.mem_of_mem_take hx)
theorem drop_byte {l : List Int} (h : ∀ x ∈ l, 0 ≤ x ∧ x < 256) (n : Nat) : ∀ x ∈ l.drop n, 0 ≤ x ∧ x < 256 := fun x hx => h x (List.mem_of_mem_drop hx)
theorem app_byte {l m : List Int} (h : ∀ x ∈ l, 0 ≤ x ∧ x < 256) (k : ∀ x ∈ m, 0 ≤ x ∧ x < 256) : ∀ x ∈ l ++ m, 0 ≤ x ∧ x < 256 := fun x hx => (List.mem_append.1 hx).elim (h x) (k x)
theorem lm_256 {l : List Int} (h : l.length = 16) (hm : Lm l) : 0 ≤ val l ∧ (val l).toNat < 2 ^ 256 := by
 have h0 := val_nonneg (fun x hx => (hm x hx).1)
 have h1 := val_lt hm
 rw [h] at h1
 refine ⟨h0, ?_⟩
 have : (65536 : Int) ^ 16 = ((2 ^ 256 : Nat) : Int) := by decide
 rw [this] at h1
 omega
theorem infoV : (Tryz.prog.info? 80).map (·.size) = some 16 := by kernel_rfl
theorem infoV' {l : List Int} (h : l.length = 16) : (Tryz.prog.info? 80).map (·.size) = some (I64 l).toArray.size := by simpa [h] using infoV
theorem laid_v (w1 : World) (L : List Int) : Below w1.heap.size w1 ((w1.alloc (.cells #[.int .i64 0, .int .i64 0, .int .i64 0, .int .i64 0, .int .i64 0, .int .i64 0, .int .i64 0, .int .i64 0, .int .i64 0, .int .i64 0, .int .i64 0, .int .i64 0, .int .i64 0, .int .i64 0, .int .i64 0, .int .i64 0] 80)).setRow w1.heap.size (I64 L).toArray) ∧ Arr ((w1.alloc (.cells #[.int .i64 0, .int .i64 0, .int .i64 0, .int .i64 0, .int .i64 0, .int .i64 0, .int .i64 0, .int .i64 0, .int .i64 0, .int .i64 0, .int .i64 0, .int .i64 0, .int .i64 0, .int .i64 0, .int .i64 0, .int .i64 0] 80)).setRow w1.heap.size (I64 L).toArray) w1.heap.size 80 (I64 L) ∧ Arr (w1.alloc (.cells #[.int .i64 0, .int .i64 0, .int .i64 0, .int .i64 0, .int .i64 0, .int .i64 0, .int .i64 0, .int .i64 0, .int .i64 0, .int .i64 0, .int .i64 0, .int .i64 0, .int .i64 0, .int .i64 0, .int .i64 0, .int .i64 0] 80)) w1.heap.size 80 (I64 Z16) := by
 have q : Arr (w1.alloc (.cells #[.int .i64 0, .int .i64 0, .int .i64 0, .int .i64 0, .int .i64 0, .int .i64 0, .int .i64 0, .int .i64 0, .int .i64 0, .int .i64 0, .int .i64 0, .int .i64 0, .int .i64 0, .int .i64 0, .int .i64 0, .int .i64 0] 80)) w1.heap.size 80 (I64 Z16) := Arr.new w1 (I64 Z16) _
 exact ⟨setRow_below ((Below.refl _ _).alloc (Nat.le_refl _) _) _ _ (Nat.le_refl _), q.row _, q⟩
theorem mul6_ok (P : E4) (N : Nat) : (mul6 P N).Ok := mst_ok P N 256
theorem sumOfW_byte (xs : List Int) : ∀ y ∈ sumOfW xs, 0 ≤ y ∧ y < 256 := sumW_byte _
end Go.Proofs.YtihoaakbkffejaaGreatDoor

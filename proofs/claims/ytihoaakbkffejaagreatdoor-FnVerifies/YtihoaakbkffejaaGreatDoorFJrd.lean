/-
  What is proved here: the contracts of the program's limbsRead and bytes: limbs out of 32 bytes; the contract of the program's ScRead; what a function of two multipliers answers, as a plain function; the contracts of the program's multipliersOf, ScAdd and ScMul; contracts of the program's methods sum and orderSettled: the sum of two; the contracts of the program's ScAdd and ScMul: the sum and the product of; an append of zeros onto a row of bytes that the call itself owns; the bytes of one, as the laws make them; what the program's PtMul, PtBase, ScRead (of one) and ScAdd answer where; plain facts on points in bytes, on multiples of the base, and what keys; the contract of the specification's l7clamp; the contract of the specification's PubOf.
-/
import Derived.Test.YtihoaakbkffejaaGreatDoorFJn
import Derived.Test.YtihoaakbkffejaaGreatDoorFFsc
import Derived.Test.YtihoaakbkffejaaGreatDoorFFm
import Derived.Test.YtihoaakbkffejaaGreatDoorFHbt
import Derived.Test.YtihoaakbkffejaaGreatDoorFUff
import Derived.Test.YtihoaakbkffejaaGreatDoorFQb
import Derived.Test.YtihoaakbkffejaaGreatDoorFJg
import Derived.Test.YtihoaakbkffejaaGreatDoorFKe
import Derived.Test.YtihoaakbkffejaaGreatDoorFOm0
import Derived.Test.YtihoaakbkffejaaGreatDoorFUc
import Derived.Lib.AppendZerosOnto
import Derived.Maps.AppendAt
import Derived.Test.YtihoaakbkffejaaGreatDoorFOha
import Derived.Test.YtihoaakbkffejaaGreatDoorFWy
import Derived.Deep.CutRange
namespace Go.Proofs.YtihoaakbkffejaaGreatDoor
open Go.RowKit
set_option maxRecDepth 100000

def rdP (bs : List Int) (k : Nat) : List Int := (List.range 16).map fun i => (if 2 * i < k then bs.getD (2 * i) 0 else 0) + 256 * (if 2 * i + 1 < k then bs.getD (2 * i + 1) 0 else 0)
theorem rdP_len (bs : List Int) (k : Nat) : (rdP bs k).length = 16 := by simp [rdP]
theorem rdP_zero (bs : List Int) : rdP bs 0 = Z16 := by simp [rdP]; rfl
theorem rdP_end (bs : List Int) : rdP bs 32 = rdL bs := by
 unfold rdP rdL
 apply List.map_congr_left
 intro i hi
 have := List.mem_range.1 hi
 rw [if_pos (by omega), if_pos (by omega)]
theorem rdP_get (bs : List Int) (k i : Nat) (h : i < 16) : (rdP bs k).getD i 0 = (if 2 * i < k then bs.getD (2 * i) 0 else 0) + 256 * (if 2 * i + 1 < k then bs.getD (2 * i + 1) 0 else 0) := by
 simp [rdP, h]
theorem rdP_set (bs : List Int) (k j : Nat) (hj : j = k / 2) (hk : k < 32) (v : Int) (hv : v = (rdP bs (k + 1)).getD j 0) : (I64 (rdP bs k)).set j (.int .i64 v) = I64 (rdP bs (k + 1)) := by
 rw [← List.map_set]
 congr 1
 have ge : ∀ m i, (rdP bs m)[i]? = if i < 16 then some ((rdP bs m).getD i 0) else none := by
  intro m i
  split
  ·rename_i h; rw [List.getD, List.getElem?_eq_getElem (by rw [rdP_len]; exact h)]; rfl
  ·rename_i h; rw [List.getElem?_eq_none (by rw [rdP_len]; omega)]
 apply List.ext_getElem?
 intro i
 rw [List.getElem?_set, ge, ge, rdP_len]
 by_cases e : j = i
 ·subst e
  rw [if_pos rfl, if_pos (by omega), if_pos (by omega), hv]
 ·rw [if_neg e]
  by_cases hi : i < 16
  ·rw [if_pos hi, if_pos hi, rdP_get bs k i hi, rdP_get bs (k + 1) i hi]
   have e1 : (2 * i < k) ↔ (2 * i < k + 1) := by omega
   have e2 : (2 * i + 1 < k) ↔ (2 * i + 1 < k + 1) := by omega
   simp only [e1, e2]
  ·rw [if_neg hi, if_neg hi]
theorem rdP_even (bs : List Int) (k j : Nat) (hj : k = 2 * j) (hk : k < 32) : (rdP bs k).getD j 0 = 0 ∧ (rdP bs (k + 1)).getD j 0 = bs.getD k 0 := by
 subst hj
 rw [rdP_get _ _ _ (by omega), rdP_get _ _ _ (by omega), if_neg (by omega), if_neg (by omega), if_pos (by omega), if_neg (by omega)]
 omega
theorem rdP_odd (bs : List Int) (k j : Nat) (hj : k = 2 * j + 1) (hk : k < 32) : (rdP bs k).getD j 0 = bs.getD (2 * j) 0 ∧ (rdP bs (k + 1)).getD j 0 = bs.getD (2 * j) 0 + 256 * bs.getD k 0 := by
 subst hj
 rw [rdP_get _ _ _ (by omega), rdP_get _ _ _ (by omega), if_pos (by omega), if_neg (by omega), if_pos (by omega), if_pos (by omega)]
 omega
def rdB (bs : List Int) : Bool := decide (bs.length = 32)
def rdZ (bs : List Int) : List Int := if rdB bs = true then rdL bs else Z16
theorem rdZ_len (bs : List Int) : (rdZ bs).length = 16 := by unfold rdZ; split <;> simp [rdL_len]
theorem or_zero {x : Int} (h0 : 0 ≤ x) (h1 : x < 256) : bits .or .i64 0 x = x := by
 have := bits_join .i64 63 (by decide) (fun n a b => by rw [IntKind.wrap_i64]; omega) 8 0 x (by omega) (by decide) (by decide) h0 (by omega) (by omega)
 rw [this]; omega
theorem or_high {x y : Int} (h0 : 0 ≤ x) (h1 : x < 256) (g0 : 0 ≤ y) (g1 : y < 256) : bits .or .i64 y (x * 256) = y + 256 * x := by
 have := bits_join .i64 63 (by decide) (fun n a b => by rw [IntKind.wrap_i64]; omega) 8 (x * 256) y (by omega) (by omega) (by omega) g0 (by omega) (by omega)
 have hc : bits .or .i64 y (x * 256) = bits .or .i64 (x * 256) y := by unfold bits; simp only [BitVec.or_comm]
 rw [hc, this]; omega

set_option maxHeartbeats 4000000 in
theorem implLimbsRead (a : Option Addr) (n c : Nat) (bs : List Int) (w : World) (hx : Bs w a n c bs) :
  Calls Tryz.prog 56 #[.slice a n c] w fun e w' => e = .returned (.tuple #[.agg (I64 (rdZ bs)).toArray, .bool (rdB bs)]) ∧ Below w.heap.size w w' := by
 obtain ⟨_, hl, hc, hr, hx⟩ := hx
 obtain ⟨L, hL⟩ : ∃ L, L = rdZ bs := ⟨_, rfl⟩
 obtain ⟨r, hrr⟩ : ∃ r, r = rdB bs := ⟨_, rfl⟩
 have HLr : Hid (L = if r = true then rdL bs else Z16) := by unfold Hid; rw [hL, hrr]; rfl
 have HRR : Hid _ := hrr
 rw [← hL, ← hrr]
 clear hL hrr
 obtain ⟨W, hW⟩ : ∃ W, W = (w.alloc (.cells zV 65)).alloc (.cells zV 65) := ⟨_, rfl⟩
 have g1 : Arr W w.heap.size 65 (I64 Z16) := by rw [hW]; exact (Arr.new w (I64 Z16) _).alloc _
 have g0 : Arr W (w.heap.size + 1) 65 (I64 Z16) := by
  rw [hW]
  have := Arr.new (w.alloc (.cells (I64 Z16).toArray 65)) (I64 Z16) 65
  rw [World.size_alloc] at this
  exact this
 have gB : Below w.heap.size w W := by rw [hW]; exact ((Below.refl _ _).alloc (Nat.le_refl _) _).alloc (by simp) _
 by_cases hn : n = 32
 rotate_left
 ·have hf : r = false := by rw [HRR.out]; unfold rdB; simp [show ¬ bs.length = 32 by omega]
  have HE : Hid (L = Z16) := by unfold Hid; rw [HLr.out, hf]; rfl
  have hn' : ((n : Int) != 32) = true := by simp; omega
  have hn'' : ¬ ((n : Int) = 32) := by omega
  have g0' := hW ▸ g0
  have g1' := hW ▸ g1
  have h2 := g1'.row (I64 Z16)
  have HB := setRow_below (hW ▸ gB) w.heap.size (I64 Z16).toArray (Nat.le_refl _)
  clear hx hr HRR HLr g0 g1 gB hW
  go_enter Tryz.func56, Tryz.ntmps56
  go_wp2_with (first
   | (refine wpList_load_row rfl 65 _ rfl (w.heap.size + 1) rfl 65 (I64 Z16).toArray (0, 0) _ g0' Tryz.underlying65 rfl infoL ?_)
   | (refine wpList_store_row rfl 65 _ _ rfl w.heap.size (I64 Z16).toArray rfl rfl 65 _ g1' infoL rfl (by simp [Value.oneCell']) ?_))
  exact bodyPost_ret (results_row_tmp (v := .bool false) (cs := I64 Z16) rfl rfl rfl h2 Tryz.underlying65 rfl infoL) rfl ⟨by first | rw [hf, HE.out] | rw [HE.out], HB⟩
 subst hn
 rcases hx with hx | ⟨b, o, rfl, hbs, hcell⟩
 ·omega
 have hr' := gD_u8 hr
 have HU8 : Hid _ := hr'
 clear hr hr'
 go_enter Tryz.func56, Tryz.ntmps56
 go_wp2
 rw [← hW]
 clear hW
 go_loopw [13] (fun i wr => ∃ k : Nat, k ≤ 32 ∧ i = .int .i64 k ∧ Arr wr (w.heap.size + 1) 65 (I64 (rdP bs k)) ∧ Arr wr w.heap.size 65 (I64 Z16) ∧ Below w.heap.size w wr) (fun i _ => 32 - (intOf i).toNat)
 case atStart => exact ⟨0, by omega, rfl, by rw [rdP_zero]; exact g0, g1, gB⟩
 case round =>
  clear g0 g1 gB
  obtain ⟨k, hk, rfl, g0, g1, gB⟩ := hrel
  have hPl := rdP_len bs k
  by_cases hlt : k < 32
  ·obtain ⟨x, hx⟩ : ∃ x, x = bs.getD k 0 := ⟨_, rfl⟩
   have hxb := HU8.out k
   rw [← hx] at hxb
   have hck : wr.cell? ⟨b, o + k, none⟩ = some (.int .u8 x) := by rw [hx]; exact (gB.cell (p := ⟨b, o + k, none⟩) hbs).trans (hcell k hlt)
   have hk32 : (k : Int) < 32 := by omega
   have hk0 : (0 : Int) ≤ (k : Int) := by omega
   obtain ⟨j, hj⟩ : ∃ j, j = k / 2 := ⟨_, rfl⟩
   have hj16 : j < 16 := by omega
   have q1 : (k : Int) / 2 = (j : Int) := by omega
   have q2 : (j : Int) < 16 := by omega
   have q3 : (0 : Int) ≤ (j : Int) := by omega
   have c1 : IntKind.i64.wrap x = x := by rw [IntKind.wrap_i64]; omega
   have hset := fun v hv => rdP_set bs k j hj hlt v hv
   have hfz := g0.frozen j
   by_cases hpar : k % 2 = 0
   ·obtain ⟨h1, h2⟩ := rdP_even bs k j (by omega) hlt
    rw [← hx] at h2
    have cz : wr.cell? ⟨w.heap.size + 1, j, none⟩ = some (.int .i64 0) := by rw [g0.i64 j (by omega), h1]
    have g0' := g0.set j (.int .i64 x)
    rw [hset x h2.symm] at g0'
    have g1' := g1.other ⟨w.heap.size + 1, j, none⟩ (.int .i64 x) (by simp)
    have gB' := gB.setCell (p := ⟨w.heap.size + 1, j, none⟩) (by simp) (.int .i64 x)
    have r1 : (k : Int) % 2 = 0 := by omega
    have o1 := or_zero hxb.1 hxb.2
    have H0 : Hid _ := g0'.drew
    have H1 : Hid _ := g1'.drew
    have HB : Hid _ := gB'.drew
    clear g0' g1' gB' g0 g1 gB hx hset h1 h2 hpar hcell hPl hj
    go_wp2
    go_region
    clear hck cz hfz
    go_wp2
    go_roundw
    case rel => exact ⟨k + 1, by omega, by go_num, H0.out, H1.out, HB.out⟩
    case measure => simp [intOf]; omega
   ·obtain ⟨h1, h2⟩ := rdP_odd bs k j (by omega) hlt
    obtain ⟨y, hy⟩ : ∃ y, y = bs.getD (2 * j) 0 := ⟨_, rfl⟩
    have hyb := HU8.out (2 * j)
    rw [← hy] at hyb h1 h2
    rw [← hx] at h2
    have cz : wr.cell? ⟨w.heap.size + 1, j, none⟩ = some (.int .i64 y) := by rw [g0.i64 j (by omega), h1]
    have g0' := g0.set j (.int .i64 (y + 256 * x))
    rw [hset _ h2.symm] at g0'
    have g1' := g1.other ⟨w.heap.size + 1, j, none⟩ (.int .i64 (y + 256 * x)) (by simp)
    have gB' := gB.setCell (p := ⟨w.heap.size + 1, j, none⟩) (by simp) (.int .i64 (y + 256 * x))
    have r1 : (k : Int) % 2 = 1 := by omega
    have o1 := or_high hxb.1 hxb.2 hyb.1 hyb.2
    have o2 : IntKind.i64.wrap (x * 256) = x * 256 := by rw [IntKind.wrap_i64]; omega
    have H0 : Hid _ := g0'.drew
    have H1 : Hid _ := g1'.drew
    have HB : Hid _ := gB'.drew
    clear g0' g1' gB' g0 g1 gB hx hy hset h1 h2 hpar hcell hPl hj
    go_wp2
    go_region
    clear hck cz hfz
    go_wp2
    go_roundw
    case rel => exact ⟨k + 1, by omega, by go_num, H0.out, H1.out, HB.out⟩
    case measure => simp [intOf]; omega
  ·obtain rfl : k = 32 := by omega
   rw [rdP_end] at g0
   have hRl := rdL_len bs
   have hf : r = true := by rw [HRR.out]; unfold rdB; simp [hl]
   have hE : L = rdL bs := by rw [HLr.out, hf]; rfl
   obtain ⟨R, hR⟩ : ∃ R, R = rdL bs := ⟨_, rfl⟩
   rw [← hR] at g0 hRl hE
   have hix : (Tryz.prog.info? 65).map (·.size) = some (I64 R).toArray.size := by simpa [hRl] using infoL
   have h2 := g1.row (I64 R)
   have HB := setRow_below gB w.heap.size (I64 R).toArray (Nat.le_refl _)
   have HE : Hid _ := hE
   have HF : Hid _ := hf
   clear hcell hPl hE hR hf
   go_wp2_with (first
    | (refine wpList_load_row rfl 65 _ rfl (w.heap.size + 1) rfl 65 (I64 R).toArray (0, 0) _ g0 Tryz.underlying65 rfl hix ?_)
    | (refine wpList_store_row rfl 65 _ _ rfl w.heap.size (I64 R).toArray rfl rfl 65 _ g1 hix (by simp [hRl]) (by simp [Value.oneCell']) ?_))
   exact bodyPost_ret (results_row_tmp (v := .bool true) (cs := I64 R) rfl rfl rfl h2 Tryz.underlying65 rfl (by simpa [hRl] using infoL)) rfl ⟨by rw [HF.out, HE.out], HB⟩

theorem Bs.two (w : World) (x y : Int) (h0 : 0 ≤ x) (h1 : x < 256) (g0 : 0 ≤ y) (g1 : y < 256) : Bs (w.alloc (.cells #[.int .u8 x, .int .u8 y] 5)) (some ⟨w.heap.size, 0, none⟩) 2 2 [x, y] := by
 refine ⟨(fun h => by cases h), rfl, Nat.le_refl _, ?_, .inr ⟨w.heap.size, 0, rfl, by simp, ?_⟩⟩
 ·intro z hz; simp at hz; omega
 ·intro j hj
  have : j = 0 ∨ j = 1 := by omega
  rcases this with rfl | rfl <;> (rw [World.cell?_alloc_at _ _ _ _ rfl]; rfl)

set_option maxHeartbeats 2000000 in
theorem implBytes (l : List Int) (w : World) (hl : l.length = 16) (hm : Lm l) :
  Calls Tryz.prog 43 #[.agg (I64 l).toArray] w fun e w' => ∃ v, e = .returned v ∧ w'.ownsRow w.heap.size 5 1 v 32 (U8 (btL l)) ∧ Below w.heap.size w w' := by
 obtain ⟨C, hC⟩ : ∃ C : Array Value, C = Array.replicate 32 (.int .u8 0) := ⟨_, rfl⟩
 have hCs : C.size = 32 * 1 := by rw [hC]; simp
 obtain ⟨W, hW⟩ : ∃ W, W = w.alloc (.cells (I64 l).toArray 65) := ⟨_, rfl⟩
 have g0 : Arr W w.heap.size 65 (I64 l) := by rw [hW]; exact Arr.new w (I64 l) _
 have gB : Below w.heap.size w W := by rw [hW]; exact (Below.refl _ _).alloc (Nat.le_refl _) _
 have gs : W.heap.size = w.heap.size + 1 := by rw [hW]; simp
 obtain ⟨A, hA⟩ : ∃ A, A = (I64 l).toArray := ⟨_, rfl⟩
 rw [← hA] at hW ⊢
 have hil : (Tryz.prog.info? 65).map (·.size) = some (I64 l).toArray.size := by simpa [hl] using infoL
 have hmk : ∀ Z : World, (Instr.makeSlice 22 (.int .i64 0) (.int .i64 32)).run Tryz.prog Z = .ok (.slice (some ⟨Z.heap.size, 0, none⟩) 0 32) (Z.alloc (.cells C 5)) := by
  intro Z
  obtain ⟨i0, hi, hz0, hz1, hz2⟩ := info_parts Tryz.info5
  have := run_make (P := Tryz.prog) Z 22 5 i0 (.int .u8 0) Tryz.underlying22 hi hz0 .i64 .i64 0 32 (by omega) (by omega) (by rw [hz2]; omega) (by omega)
  rw [this, hz1, show madeCells (Value.int .u8 0).cells (Int.toNat 32 * 1) = C by rw [hC]; kernel_rfl]
  rfl
 have o0 : (W.alloc (.cells C 5)).ownsRow (w.heap.size + 1) 5 1 (.slice (some ⟨W.heap.size, 0, none⟩) 0 32) 0 (U8 (btL (l.take 0))) := by
  have := World.ownsRow_made (base := w.heap.size + 1) (e := 5) (size := 1) W C 32 (by omega) (by unfold maxLen; omega) hCs
  simpa [btL] using this
 have g1 : Arr (W.alloc (.cells C 5)) w.heap.size 65 (I64 l) := g0.alloc _
 have gB1 : Below w.heap.size w (W.alloc (.cells C 5)) := gB.alloc gB.size _
 have gs1 : w.heap.size + 1 ≤ (W.alloc (.cells C 5)).heap.size := by simp [gs]
 rw [gs] at o0
 have g1' := hW ▸ g1
 have HW : Hid _ := hW
 clear hA hC hCs g0 gB gs hW
 go_enter Tryz.func43, Tryz.ntmps43
 go_wp2_with (refine wpList_load_row rfl 65 _ rfl w.heap.size rfl 65 (I64 l).toArray (0, 0) _ g1' Tryz.underlying65 rfl hil ?_)
 rw [← HW.out]
 clear g1' HW hmk
 obtain ⟨V, hV⟩ : ∃ V, V = W.alloc (.cells C 5) := ⟨_, rfl⟩
 rw [← hV] at o0 g1 gB1 gs1 ⊢
 clear hV
 go_loopw [3, 8] (fun v i wr => ∃ k : Nat, k ≤ 16 ∧ i = .int .i64 k ∧ wr.ownsRow (w.heap.size + 1) 5 1 v (2 * k) (U8 (btL (l.take k))) ∧ Below w.heap.size w wr ∧ w.heap.size + 1 ≤ wr.heap.size) (fun _ i _ => 16 - (intOf i).toNat)
 case atStart => exact ⟨0, by omega, rfl, o0, gB1, gs1⟩
 case round =>
  clear o0 g1 gB1 gs1
  obtain ⟨k, hk, rfl, hown, gB, gs⟩ := hrel
  by_cases hlt : k < 16
  ·have ix := fun w => index_arr Tryz.underlying65 Tryz.underlying3 infoL1 l hl k hlt w
   obtain ⟨x, hx⟩ : ∃ x, x = l.getD k 0 := ⟨_, rfl⟩
   rw [← hx] at ix
   have hxb := gD_lm hm k
   rw [← hx] at hxb
   obtain ⟨hx0, hx1⟩ := hxb
   have hnx := btL_snoc l k (by omega)
   rw [← hx] at hnx
   have HN : Hid _ := hnx
   clear hx hnx
   have s1 : IntKind.u8.wrap x = x % 256 := by rw [IntKind.wrap_u8]
   have s2 : IntKind.u8.wrap (x / 256) = x / 256 := by rw [IntKind.wrap_u8]; omega
   have hk16 : (k : Int) < 16 := by omega
   go_wp2_with (at_builtin; refine wpl_append_bs rfl _ _ rfl (w.heap.size + 1) _ (2 * k) (btL (l.take k)) rfl (some ⟨wr.heap.size, 0, none⟩) 2 2 [x % 256, x / 256] rfl (hown.alloc _) ?_ ?_ ?_ ?_)
   ·exact Bs.two _ _ _ (by omega) (by omega) (by omega) (by omega)
   ·omega
   ·first | omega | (simp; omega)
   intro v' w' h1 h2 _
   have hbA : Below (w.heap.size + 1) wr w' := ((Below.refl _ _).alloc (by omega) _).grown h2 (by simp; omega) (fun j hj => (hown.lt j hj).1)
   have gB' := gB.trans (hbA.mono (by omega))
   have gs' := Nat.le_trans gs hbA.size
   have HR : Hid (w'.ownsRow (w.heap.size + 1) 5 1 v' (2 * (k + 1)) (U8 (btL (l.take (k + 1))))) := by
    unfold Hid
    rw [HN.out, show 2 * (k + 1) = 2 * k + 2 by omega]; simpa using h1
   clear h1 h2 hown gB hbA HN ix
   go_wp2
   go_roundw
   case rel => exact ⟨k + 1, by omega, by go_num, HR.out, gB', gs'⟩
   case measure => simp [intOf]; omega
  ·obtain rfl : k = 16 := by omega
   rw [List.take_of_length_le (by omega)] at hown
   have HO : Hid _ := own_base hown (show w.heap.size ≤ w.heap.size + 1 by omega)
   clear hown
   go_wp2
   go_ret
   exact ⟨_, rfl, HO.out, gB⟩
theorem rdZ_lm {bs : List Int} (hb : ∀ x ∈ bs, 0 ≤ x ∧ x < 256) : Lm (rdZ bs) := by
 unfold rdZ
 split
 ·exact rdL_lm hb
 ·intro x hx
  have : x = 0 := by simpa using hx
  omega
theorem muB_rd (bs : List Int) : muB (rdZ bs) (rdB bs) = rdOkO bs := by
 unfold muB rdOkO rdB
 by_cases h : bs.length = 32
 ·have e : rdZ bs = rdL bs := by unfold rdZ rdB; rw [if_pos (by simp [h])]
  rw [e]
 ·simp [h]
theorem muL_rd {bs : List Int} (h : rdOkO bs = true) : muL (rdZ bs) (rdB bs) = rdFO bs := by
 unfold muL rdFO
 rw [muB_rd, if_pos h, if_pos h]
 have h2 : rdB bs = true := by unfold rdOkO at h; simp at h; unfold rdB; simp [h.1]
 unfold rdZ
 rw [if_pos h2]

structure S1r (w W : World) : Prop where
 fr : Below w.heap.size w W
 pr : Arr W w.heap.size 41 [.slice none 0 0]
theorem S1r.go {w A B : World} (h : S1r w A) (hb : Below A.heap.size A B) : S1r w B := ⟨h.fr.trans (hb.mono h.fr.size), h.pr.kept hb⟩

set_option maxHeartbeats 2000000 in
theorem implScRead (a : Option Addr) (n c : Nat) (bs : List Int) (w : World) (hx : Bs w a n c bs) (hV : Vr w 6 (I64 OL)) :
  Calls Tryz.prog 16 #[.slice a n c] w fun e w' => ∃ v, e = .returned (.tuple #[v, .bool (rdOkO bs)]) ∧ FeT 65 w w' v (rdFO bs) ∧ Below w.heap.size w w' := by
 obtain ⟨W, hW⟩ : ∃ W, W = w.alloc (.cells #[.slice none 0 0] 41) := ⟨_, rfl⟩
 have EE : S1r w W := by rw [hW]; exact ⟨(Below.refl _ _).alloc (Nat.le_refl _) _, Arr.new _ _ _⟩
 have HO := implLimbsRead a n c bs W (hx.below EE.fr)
 have gV := hV.kept EE.fr
 have hby := hx.2.2.2.1
 have HM : Hid (∀ Z, Vr Z 6 (I64 OL) → Calls Tryz.prog 58 #[.agg (I64 (rdZ bs)).toArray, .bool (rdB bs)] Z fun e w' => e = .returned (.tuple #[.agg (I64 (muL (rdZ bs) (rdB bs))).toArray, .bool (rdOkO bs)]) ∧ Below Z.heap.size Z w') := by
  unfold Hid; intro Z hZ
  have := implMuOf (rdZ bs) (rdB bs) Z (rdZ_len bs) (rdZ_lm hby) hZ
  rw [muB_rd] at this
  exact this
 have hSl : (muL (rdZ bs) (rdB bs)).length = 16 := muL_len (rdZ_len bs)
 obtain ⟨o, ho⟩ : ∃ o, o = rdOkO bs := ⟨_, rfl⟩
 obtain ⟨T, hT⟩ : ∃ T, T = rdFO bs := ⟨_, rfl⟩
 obtain ⟨L, hL⟩ : ∃ L, L = rdZ bs := ⟨_, rfl⟩
 obtain ⟨p, hp⟩ : ∃ p, p = rdB bs := ⟨_, rfl⟩
 obtain ⟨S, hS⟩ : ∃ S, S = muL (rdZ bs) (rdB bs) := ⟨_, rfl⟩
 have HT0 : Hid (o = false → T = []) := by unfold Hid; intro h; rw [hT]; unfold rdFO; rw [← ho, h]; rfl
 have HT1 : Hid (o = true → T = S) := by unfold Hid; intro h; rw [hT, hS]; exact (muL_rd (by rw [← ho]; exact h)).symm
 rw [← hS] at HM hSl
 rw [← hL, ← hp] at HO HM
 rw [← ho] at HM ⊢
 rw [← hT]
 have HO' : Hid (Calls Tryz.prog 56 #[.slice a n c] W fun e w' => e = .returned (.tuple #[.agg (I64 L).toArray, .bool p]) ∧ Below W.heap.size W w') := HO
 have his : (Tryz.prog.info? 92).map (·.size) = some (I64 S).toArray.size := by simpa [hSl] using infoM
 have hisl : (Tryz.prog.info? 65).map (·.size) = some (I64 S).toArray.size := by simpa [hSl] using infoL
 clear HO hL hp hS hx hV ho hT hby
 go_enter Tryz.func16, Tryz.ntmps16
 go_wp2_with fail
 rw [← hW]
 refine HO'.out.mono ?_
 rintro e w1 ⟨rfl, hb1⟩
 replace EE := EE.go hb1
 replace gV := gV.kept hb1
 clear hW hb1 HO'
 go_wp2_with fail
 refine (HM.out _ gV).mono ?_
 rintro e w2 ⟨rfl, hb2⟩
 replace EE := EE.go hb2
 obtain ⟨bV, pV, q1⟩ := laid_mu w2 S
 replace EE := EE.go bV
 clear gV hb2 bV HM
 cases o with
 | false =>
  have HE : Hid (T = []) := HT0.out rfl
  have hcr : ((w2.alloc (.cells zV 92)).setRow w2.heap.size (I64 S).toArray).cell? ⟨w.heap.size, 0, none⟩ = some (.slice none 0 0) := EE.pr.cell 0
  have hfr := EE.pr.frozen 0
  have HA : Hid _ := EE.pr.set 0 (.slice none 0 0)
  have HB : Hid _ := EE.fr.setCell (p := ⟨w.heap.size, 0, none⟩) (Nat.le_refl _) (.slice none 0 0)
  clear EE HT0 HT1 pV
  go_wp2_with (refine wpList_store_row rfl 92 _ _ rfl w2.heap.size (I64 S).toArray rfl rfl 92 _ q1 his (by simp [hSl]) (by simp [Value.oneCell']) ?_)
  exact bodyPost_ret (results_row_tmp (v := .bool false) (cs := [.slice none 0 0]) rfl rfl rfl HA.out Tryz.underlying41 rfl infoSc) rfl ⟨_, rfl, HE.out ▸ feT_nil _ _ _, HB.out⟩
 | true =>
  have HE : Hid (T = S) := HT1.out rfl
  clear HT0 HT1
  go_wp2_with (first
   | (refine wpList_store_row rfl 92 _ _ rfl w2.heap.size (I64 S).toArray rfl rfl 92 _ q1 his (by simp [hSl]) (by simp [Value.oneCell']) ?_)
   | (refine wpList_load_row rfl 65 _ rfl w2.heap.size rfl 92 (I64 S).toArray (0, 0) _ pV Tryz.underlying65 rfl hisl ?_))
  obtain ⟨V, hVV⟩ : ∃ V, V = (w2.alloc (.cells zV 92)).setRow w2.heap.size (I64 S).toArray := ⟨_, rfl⟩
  rw [← hVV] at EE ⊢
  clear hVV pV q1
  refine (implList S _ hSl).mono ?_
  rintro e w4 ⟨a', c', rfl, ho, hb4⟩
  have hlt := EE.pr.lt
  have hsz := EE.fr.size
  replace EE := EE.go hb4
  have HOW : Hid _ := own_base (own_otherS ho ⟨w.heap.size, 0, none⟩ (.slice a' 16 c') hlt) hsz
  have hcr : w4.cell? ⟨w.heap.size, 0, none⟩ = some (.slice none 0 0) := EE.pr.cell 0
  have hfr := EE.pr.frozen 0
  have HA : Hid _ := EE.pr.set 0 (.slice a' 16 c')
  have HB : Hid _ := EE.fr.setCell (p := ⟨w.heap.size, 0, none⟩) (Nat.le_refl _) (.slice a' 16 c')
  clear EE ho hb4 hsz hlt
  go_wp2
  exact bodyPost_ret (results_row_tmp (v := .bool true) (cs := [.slice a' 16 c']) rfl rfl rfl HA.out Tryz.underlying41 rfl infoSc) rfl ⟨_, rfl, HE.out ▸ feT_16 hSl HOW.out, HB.out⟩
structure P4 (w W : World) (va vb : Value) : Prop where
 fr : Below w.heap.size w W
 pa : Arr W w.heap.size 41 [va]
 pb : Arr W (w.heap.size + 1) 41 [vb]
 r1 : Arr W (w.heap.size + 2) 92 (I64 Z16)
 r2 : Arr W (w.heap.size + 3) 92 (I64 Z16)
 vr : Vr W 6 (I64 OL)
theorem P4.go {w A B : World} {va vb : Value} (h : P4 w A va vb) (hb : Below A.heap.size A B) : P4 w B va vb := ⟨h.fr.trans (hb.mono h.fr.size), h.pa.kept hb, h.pb.kept hb, h.r1.kept hb, h.r2.kept hb, h.vr.kept hb⟩
theorem P4.new {w : World} (va vb : Value) (h : Vr w 6 (I64 OL)) : P4 w ((((w.alloc (.cells #[va] 41)).alloc (.cells #[vb] 41)).alloc (.cells (I64 Z16).toArray 92)).alloc (.cells (I64 Z16).toArray 92)) va vb := by
 have b1 : Below w.heap.size w (w.alloc (.cells #[va] 41)) := (Below.refl _ _).alloc (Nat.le_refl _) _
 have b2 := b1.alloc (by simp) (.cells #[vb] 41)
 have b3 := b2.alloc (by simp; omega) (.cells (I64 Z16).toArray 92)
 have hb := b3.alloc (by simp; omega) (.cells (I64 Z16).toArray 92)
 refine ⟨hb, (((Arr.new w [va] _).alloc _).alloc _).alloc _, ?_, ?_, ?_, h.kept hb⟩
 ·have := ((Arr.new (w.alloc (.cells #[va] 41)) [vb] 41).alloc (.cells (I64 Z16).toArray 92)).alloc (.cells (I64 Z16).toArray 92)
  rw [World.size_alloc] at this
  exact this
 ·have := (Arr.new ((w.alloc (.cells #[va] 41)).alloc (.cells #[vb] 41)) (I64 Z16) 92).alloc (.cells (I64 Z16).toArray 92)
  rw [World.size_alloc, World.size_alloc] at this
  exact this
 ·have := Arr.new (((w.alloc (.cells #[va] 41)).alloc (.cells #[vb] 41)).alloc (.cells (I64 Z16).toArray 92)) (I64 Z16) 92
  rw [World.size_alloc, World.size_alloc, World.size_alloc] at this
  exact this
structure M4 (w W : World) (a b : List Int) : Prop where
 fr : Below w.heap.size w W
 pa : Arr W w.heap.size 92 (I64 a)
 pb : Arr W (w.heap.size + 1) 92 (I64 b)
 pr : Arr W (w.heap.size + 2) 92 (I64 Z16)
 vr : Vr W 6 (I64 OL)
 g0 : 6 < w.heap.size
theorem M4.go {w A B : World} {a b : List Int} (h : M4 w A a b) (hb : Below A.heap.size A B) : M4 w B a b := ⟨h.fr.trans (hb.mono h.fr.size), h.pa.kept hb, h.pb.kept hb, h.pr.kept hb, h.vr.kept hb, h.g0⟩
theorem M4.all {w W : World} {a b : List Int} (h : M4 w W a b) : W.rangeAt w.heap.size 0 (I64 a) ∧ W.rangeAt (w.heap.size + 1) 0 (I64 b) ∧ W.rangeAt 6 0 (I64 OL) := ⟨arr_range h.pa, arr_range h.pb, vr_range h.vr⟩
theorem M4.new {w : World} (a b : List Int) (h : Vr w 6 (I64 OL)) : M4 w (((w.alloc (.cells (I64 a).toArray 92)).alloc (.cells (I64 b).toArray 92)).alloc (.cells (I64 Z16).toArray 92)) a b := by
 have hb : Below w.heap.size w (((w.alloc (.cells (I64 a).toArray 92)).alloc (.cells (I64 b).toArray 92)).alloc (.cells (I64 Z16).toArray 92)) := (((Below.refl _ _).alloc (Nat.le_refl _) _).alloc (by simp) _).alloc (by simp; omega) _
 refine ⟨hb, ((Arr.new w (I64 a) _).alloc _).alloc _, ?_, ?_, h.kept hb, h.lt⟩
 ·have := (Arr.new (w.alloc (.cells (I64 a).toArray 92)) (I64 b) 92).alloc (.cells (I64 Z16).toArray 92)
  rw [World.size_alloc] at this
  exact this
 ·have := Arr.new ((w.alloc (.cells (I64 a).toArray 92)).alloc (.cells (I64 b).toArray 92)) (I64 Z16) 92
  rw [World.size_alloc, World.size_alloc] at this
  exact this
theorem M4.put {w W : World} {a b R : List Int} (h : M4 w W a b) (hR : R.length = 16) : Arr (W.setCells (w.heap.size + 1 + 1) 0 (I64 R)) (w.heap.size + 1 + 1) 92 (I64 R) ∧ Below w.heap.size w (W.setCells (w.heap.size + 1 + 1) 0 (I64 R)) ∧
  ((W.setCells (w.heap.size + 1 + 1) 0 (I64 R)).rangeAt w.heap.size 0 (I64 a) ∧ (W.setCells (w.heap.size + 1 + 1) 0 (I64 R)).rangeAt (w.heap.size + 1) 0 (I64 b) ∧ (W.setCells (w.heap.size + 1 + 1) 0 (I64 R)).rangeAt 6 0 (I64 OL)) ∧ W.there (w.heap.size + 1 + 1) 0 (I64 R).toArray.size := by
 have hg := h.pa.lt
 have h0 : 6 ≠ w.heap.size + 1 + 1 := by have := h.g0; omega
 exact ⟨Arr.setCells0 h.pr (by simp [hR]), setCells_below (by omega) _ _ h.fr, ⟨arr_range (Arr.setCellsO (by omega) _ _ h.pa), arr_range (Arr.setCellsO (by omega) _ _ h.pb), vr_range (Vr.setCellsO h0 h.vr)⟩, by have := arr_there h.pr; simpa [hR] using this⟩
theorem implLessO (x : Int) (w : World) (h0 : 0 ≤ x) (h1 : x < 2 * qO) :
  Calls Tryz.prog 126 #[.agg (I64 (lim 16 x)).toArray, .agg (I64 OL).toArray] w fun e w' => e = .returned (.agg (I64 (redO x)).toArray) ∧ Below w.heap.size w w' := by
 have := implLess (lim 16 x) OL w (lim_len _ _) OL_len (lim_lm _ _) OL_lm
 rw [val_lim16 h0 h1, OL_val] at this
 have hls := lessO h0 h1
 have e : lim 16 (if x < qO then x else x - qO) = redO x := by
  split
  ·rename_i h; exact hls.1 h
  ·rename_i h; exact hls.2 h
 rw [e] at this
 exact this
structure S3r (w W : World) (va vb : Value) : Prop where
 fr : Below w.heap.size w W
 pa : Arr W w.heap.size 41 [va]
 pb : Arr W (w.heap.size + 1) 41 [vb]
 pr : Arr W (w.heap.size + 2) 41 [.slice none 0 0]
 vr : Vr W 6 (I64 OL)
theorem S3r.go {w A B : World} {va vb : Value} (h : S3r w A va vb) (hb : Below A.heap.size A B) : S3r w B va vb := ⟨h.fr.trans (hb.mono h.fr.size), h.pa.kept hb, h.pb.kept hb, h.pr.kept hb, h.vr.kept hb⟩
theorem S3r.new {w : World} (va vb : Value) (h : Vr w 6 (I64 OL)) : S3r w (((w.alloc (.cells #[va] 41)).alloc (.cells #[vb] 41)).alloc (.cells #[.slice none 0 0] 41)) va vb := by
 have b1 : Below w.heap.size w (w.alloc (.cells #[va] 41)) := (Below.refl _ _).alloc (Nat.le_refl _) _
 have b2 := b1.alloc (by simp) (.cells #[vb] 41)
 have hb := b2.alloc (by simp; omega) (.cells #[.slice none 0 0] 41)
 refine ⟨hb, ((Arr.new w [va] _).alloc _).alloc _, ?_, ?_, h.kept hb⟩
 ·have := (Arr.new (w.alloc (.cells #[va] 41)) [vb] 41).alloc (.cells #[.slice none 0 0] 41)
  rw [World.size_alloc] at this
  exact this
 ·have := Arr.new ((w.alloc (.cells #[va] 41)).alloc (.cells #[vb] 41)) [.slice none 0 0] 41
  rw [World.size_alloc, World.size_alloc] at this
  exact this
set_option maxHeartbeats 4000000
set_option linter.unusedSectionVars false

theorem sc_int {l : List Int} (h : scOk l = true) : ∀ x ∈ l, -9223372036854775808 ≤ x ∧ x ≤ 9223372036854775807 := fun x hx => by have := ((scOk_iff l).1 h).2.1 x hx; omega
theorem sc_16 {l : List Int} (h : scOk l = true) : l.length = 16 := ((scOk_iff l).1 h).1
section
variable [NeZero pN]
end
def enc (p : KF × KF) : List Int := ptBt (cx p.1) (cx p.2)
theorem enc_len (p : KF × KF) : (enc p).length = 32 := ptBt_len (feOk_len (cx_ok _))
theorem enc_byte (p : KF × KF) : ∀ x ∈ enc p, 0 ≤ x ∧ x < 256 := ptBt_byte (cx_ok _)
section
variable [NeZero pN]
theorem ptBt_ext {P : E4} {p : KF × KF} (h : Ext6 P p) : ptBt (flx P) (fly P) = enc p := by
 obtain ⟨a, b⟩ := ext6_flat h
 unfold enc
 rw [a, b]
theorem ptBF_cx {p : KF × KF} (h : On dK p) : ptBF (cx p.1) (cx p.2) = enc p := by
 unfold ptBF
 rw [if_pos (pt_ok h), ptBt_ext (ext6_make _ _), fl_cx, fl_cx]
theorem ext6_base : Ext6 base6 baseK := by
 have h := ext6_make BX BY
 have b := base_lists
 have e : (fl BX, fl BY) = baseK := by rw [b.1, b.2, fl_cx, fl_cx]
 rw [e] at h
 exact h
end
/-! What a seed comes to. -/
def sA (seed : List Int) : List Int := clL (rdL ((sumOfW seed).take 32))
def mS (xs : List Int) : List Int := redO (val (wdL (sumOfW xs)))
theorem sA_len (seed : List Int) : (sA seed).length = 16 := clL_len (rdL_len _)
theorem take_byte {l : List Int} (h : ∀ x ∈ l, 0 ≤ x ∧ x < 256) (n : Nat) : ∀ x ∈ l.take n, 0 ≤ x ∧ x < 256 := fun x hx => h x (List.mem_of_mem_take hx)
theorem drop_byte {l : List Int} (h : ∀ x ∈ l, 0 ≤ x ∧ x < 256) (n : Nat) : ∀ x ∈ l.drop n, 0 ≤ x ∧ x < 256 := fun x hx => h x (List.mem_of_mem_drop hx)
theorem app_byte {l m : List Int} (h : ∀ x ∈ l, 0 ≤ x ∧ x < 256) (k : ∀ x ∈ m, 0 ≤ x ∧ x < 256) : ∀ x ∈ l ++ m, 0 ≤ x ∧ x < 256 := fun x hx => (List.mem_append.1 hx).elim (h x) (k x)
theorem lm_256 {l : List Int} (h : l.length = 16) (hm : Lm l) : 0 ≤ val l ∧ (val l).toNat < 2 ^ 256 := by
 have h0 := val_nonneg (fun x hx => (hm x hx).1)
 have h1 := val_lt hm
 rw [h] at h1
 refine ⟨h0, ?_⟩
 have : (65536 : Int) ^ 16 = ((2 ^ 256 : Nat) : Int) := by decide
 rw [this] at h1
 omega
theorem infoV : (Tryz.prog.info? 80).map (·.size) = some 16 := by kernel_rfl
theorem infoV' {l : List Int} (h : l.length = 16) : (Tryz.prog.info? 80).map (·.size) = some (I64 l).toArray.size := by simpa [h] using infoV
theorem laid_v (w1 : World) (L : List Int) : Below w1.heap.size w1 ((w1.alloc (.cells zV 80)).setRow w1.heap.size (I64 L).toArray) ∧ Arr ((w1.alloc (.cells zV 80)).setRow w1.heap.size (I64 L).toArray) w1.heap.size 80 (I64 L) ∧ Arr (w1.alloc (.cells zV 80)) w1.heap.size 80 (I64 Z16) := by
 have q : Arr (w1.alloc (.cells zV 80)) w1.heap.size 80 (I64 Z16) := Arr.new w1 (I64 Z16) _
 exact ⟨setRow_below ((Below.refl _ _).alloc (Nat.le_refl _) _) _ _ (Nat.le_refl _), q.row _, q⟩

set_option maxHeartbeats 2000000 in
theorem specClamp16 (a : Option Addr) (c : Nat) (bs : List Int) (w : World) (hx : Bs w a 32 c bs) :
  Calls Tryz.prog 90 #[.slice a 32 c] w fun e w' => e = .returned (.agg (I64 (clL (rdL bs))).toArray) ∧ Below w.heap.size w w' := by
 have hm : Lm (rdL bs) := rdL_lm hx.2.2.2.1
 have hl := rdL_len bs
 have HR : Hid (∀ (Z : World), Bs Z a 32 c bs → Calls Tryz.prog 51 #[.slice a 32 c] Z fun e w' => e = .returned (.agg (I64 (rdL bs)).toArray) ∧ Below Z.heap.size Z w') := by unfold Hid; intro Z h; exact specRead16 a c bs Z h
 obtain ⟨R, hR⟩ : ∃ R, R = rdL bs := ⟨_, rfl⟩
 rw [← hR] at hm hl HR ⊢
 clear hR
 obtain ⟨x, ex⟩ : ∃ x, x = R.getD 0 0 := ⟨_, rfl⟩
 obtain ⟨y, ey⟩ : ∃ y, y = R.getD 15 0 := ⟨_, rfl⟩
 have bx := gD_lm hm 0
 have b15 := gD_lm hm 15
 rw [← ex] at bx
 rw [← ey] at b15
 have a1 := and_65528 bx.1 bx.2
 have a2 := top_16384 b15.1 b15.2
 obtain ⟨C, hC⟩ : ∃ C, C = clL R := ⟨_, rfl⟩
 have HC : Hid (((I64 R).set 0 (.int .i64 (x / 8 * 8))).set 15 (.int .i64 (y % 16384 + 16384)) = I64 C) := by
  unfold Hid; rw [hC, ex, ey]; simp only [clL, I64, List.map_set]
 have hCl : C.length = 16 := by rw [hC]; exact clL_len hl
 rw [← hC]
 clear hC
 have jR := infoV' hl
 have jC := infoV' hCl
 obtain ⟨W, hW⟩ : ∃ W, W = w.alloc (.cells zV 80) := ⟨_, rfl⟩
 have B : Below w.heap.size w W := by rw [hW]; exact (Below.refl _ _).alloc (Nat.le_refl _) _
 have p2 : Arr W w.heap.size 80 (I64 Z16) := by rw [hW]; exact Arr.new _ (I64 Z16) _
 have hxW := hx.below B
 clear hx
 go_enter Tryz.func90, Tryz.ntmps90
 go_upto_region 1 with fail
 rw [← hW]
 clear hW
 go_wp2_with fail
 refine (HR.out _ hxW).mono ?_
 rintro e y1 ⟨rfl, hb1⟩
 replace B := B.trans (hb1.mono B.size)
 replace p2 := p2.kept hb1
 clear hb1 hxW
 have hX : w.heap.size < y1.heap.size := p2.lt
 obtain ⟨bV, A, q1⟩ := laid_v y1 R
 replace B := B.trans (bV.mono B.size)
 replace p2 := p2.kept bV
 go_upto_region 2 with (refine wpList_store_row rfl 80 _ _ rfl y1.heap.size (I64 R).toArray rfl rfl 80 _ q1 jR (by simp [hl]) (by simp [Value.oneCell']) ?_)
 obtain ⟨V, hV⟩ : ∃ V, V = (y1.alloc (.cells zV 80)).setRow y1.heap.size (I64 R).toArray := ⟨_, rfl⟩
 obtain ⟨X, hE⟩ : ∃ E, E = y1.heap.size := ⟨_, rfl⟩
 rw [← hV] at B p2 A ⊢
 rw [← hE] at A hX ⊢
 clear hV hE q1 bV
 have c0 : V.cell? ⟨X, 0, none⟩ = some (.int .i64 x) := by rw [A.i64 0 (by omega), ex]
 have fz := A.frozen 0
 have A' := A.set 0 (.int .i64 (x / 8 * 8))
 have p2' := p2.other ⟨X, 0, none⟩ (.int .i64 (x / 8 * 8)) (by show w.heap.size ≠ X; omega)
 have B' := B.setCell (p := ⟨X, 0, none⟩) (by show w.heap.size ≤ X; omega) (.int .i64 (x / 8 * 8))
 clear ex
 go_upto_region 3 with fail
 obtain ⟨V1, hV1⟩ : ∃ Z, Z = V.setCell ⟨X, 0, none⟩ (.int .i64 (x / 8 * 8)) := ⟨_, rfl⟩
 rw [← hV1] at A' p2' B' ⊢
 have c15 : V1.cell? ⟨X, 15, none⟩ = some (.int .i64 y) := by rw [A'.cell 15]; simp [hl, ey]
 have fz1 := A'.frozen 15
 have A2 := A'.set 15 (.int .i64 (y % 16384 + 16384))
 have p22 := p2'.other ⟨X, 15, none⟩ (.int .i64 (y % 16384 + 16384)) (by show w.heap.size ≠ X; omega)
 have B2 := B'.setCell (p := ⟨X, 15, none⟩) (by show w.heap.size ≤ X; omega) (.int .i64 (y % 16384 + 16384))
 clear hV1 c0 fz A p2 B A' p2' B' ey
 go_upto_region 4 with fail
 obtain ⟨V2, hV2⟩ : ∃ Z, Z = V1.setCell ⟨X, 15, none⟩ (.int .i64 (y % 16384 + 16384)) := ⟨_, rfl⟩
 rw [← hV2] at A2 p22 B2 ⊢
 clear hV2 c15 fz1
 rw [HC.out] at A2
 have h2 := p22.row (I64 C)
 have HB : Hid _ := setRow_below B2 w.heap.size (I64 C).toArray (Nat.le_refl _)
 go_wp2_with (first
  | (refine wpList_load_row rfl 80 _ rfl X rfl 80 (I64 C).toArray (0, 0) _ A2 Tryz.underlying80 rfl jC ?_)
  | (refine wpList_store_row rfl 80 _ _ rfl w.heap.size (I64 C).toArray rfl rfl 80 _ p22 jC (by simp [hCl]) (by simp [Value.oneCell']) ?_))
 exact bodyPost_ret (results_cell_row rfl _ _ w.heap.size 80 (I64 C).toArray (0, 0) _ rfl h2 Tryz.underlying80 rfl jC) rfl ⟨rfl, HB.out⟩
def baseB (N : Nat) : List Int := enc (@pMul pN nzP dK ivK N baseK)
theorem baseB_len (N : Nat) : (baseB N).length = 32 := enc_len _
theorem baseB_byte (N : Nat) : ∀ x ∈ baseB N, 0 ≤ x ∧ x < 256 := enc_byte _
theorem baseB_mul {N : Nat} (h : N < 2 ^ 256) : ptBt (flx (mul6 base6 N)) (fly (mul6 base6 N)) = baseB N := by
 haveI := nzP
 exact ptBt_ext (ext6_mul ext6_base on_base N h)
theorem mul6_ok (P : E4) (N : Nat) : (mul6 P N).Ok := mst_ok P N 256
theorem sumOfW_byte (xs : List Int) : ∀ y ∈ sumOfW xs, 0 ≤ y ∧ y < 256 := sumW_byte _
def pbOk (seed : List Int) : Bool := decide (seed.length = 32)
def pbL (seed : List Int) : List Int := if pbOk seed = true then baseB (val (sA seed)).toNat else []
theorem pbL_byte (seed : List Int) : ∀ x ∈ pbL seed, 0 ≤ x ∧ x < 256 := by
 unfold pbL; split
 ·exact baseB_byte _
 ·intro x hx; cases hx
theorem pbL_len (seed : List Int) : (pbL seed).length ≤ 64 := by
 unfold pbL; split
 ·rw [baseB_len]; omega
 ·simp
theorem sA_lm (seed : List Int) : Lm (sA seed) := clL_lm (rdL_lm (take_byte (sumOfW_byte _) 32))

theorem specBase (k : List Int) (Z : World) (hk : k.length = 16) (hm : Lm k) :
  Calls Tryz.prog 54 #[.agg (I64 (mul6 base6 (val k).toNat).cells).toArray] Z fun e w' => ∃ v, e = .returned v ∧ w'.ownsRow Z.heap.size 5 1 v 32 (U8 (baseB (val k).toNat)) ∧ Below Z.heap.size Z w' := by
 rw [← baseB_mul (lm_256 hk hm).2]
 exact spec6bytes _ Z (mul6_ok _ _)

set_option maxHeartbeats 2000000 in
theorem specPubOf (a : Option Addr) (n c : Nat) (bs : List Int) (w : World) (hx : Bs w a n c bs) :
  Calls Tryz.prog 48 #[.slice a n c] w fun e w' => ∃ v, e = .returned (.tuple #[v, .bool (pbOk bs)]) ∧ w'.ownsRow w.heap.size 5 1 v (pbL bs).length (U8 (pbL bs)) ∧ Below w.heap.size w w' := by
 have hn : bs.length = n := hx.2.1
 by_cases h : n = 32
 ·subst h
  have hok : pbOk bs = true := by unfold pbOk; exact decide_eq_true hn
  have hL : pbL bs = baseB (val (sA bs)).toNat := by unfold pbL; rw [if_pos hok]
  rw [hok, hL, baseB_len]
  have HB : Hid (∀ Z, Calls Tryz.prog 77 #[] Z fun e w' => e = .returned (.agg (I64 base6.cells).toArray) ∧ Below Z.heap.size Z w') := by unfold Hid; intro Z; exact spec6base Z
  have HH : Hid (∀ Z, Bs Z a 32 c bs → Calls Tryz.prog 73 #[.slice a 32 c] Z fun e w' => ∃ v, e = .returned v ∧ w'.ownsRow Z.heap.size 5 1 v 64 (U8 (sumOfW bs)) ∧ Below Z.heap.size Z w') := by unfold Hid; intro Z h; exact specL3sum a 32 c bs Z h (by omega)
  obtain ⟨k, hk⟩ : ∃ k, k = sA bs := ⟨_, rfl⟩
  have HC : Hid (∀ (a : Option Addr) (c : Nat) (Z : World), Bs Z a 32 c ((sumOfW bs).take 32) → Calls Tryz.prog 90 #[.slice a 32 c] Z fun e w' => e = .returned (.agg (I64 k).toArray) ∧ Below Z.heap.size Z w') := by unfold Hid; intro a c Z h; rw [hk]; exact specClamp16 a c _ Z h
  have HM : Hid (∀ Z, Calls Tryz.prog 76 #[.agg (I64 base6.cells).toArray, .agg (I64 k).toArray] Z fun e w' => e = .returned (.agg (I64 (mul6 base6 (val k).toNat).cells).toArray) ∧ Below Z.heap.size Z w') := by unfold Hid; intro Z; rw [hk]; exact spec6mul base6 _ Z base6_ok (sA_len _) (sA_lm _)
  have HY : Hid (∀ Z, Calls Tryz.prog 54 #[.agg (I64 (mul6 base6 (val k).toNat).cells).toArray] Z fun e w' => ∃ v, e = .returned v ∧ w'.ownsRow Z.heap.size 5 1 v 32 (U8 (baseB (val k).toNat)) ∧ Below Z.heap.size Z w') := by unfold Hid; intro Z; rw [hk]; exact specBase _ Z (sA_len _) (sA_lm _)
  have hs := sumOfW_len bs
  have hb := sumOfW_byte bs
  obtain ⟨S, hS⟩ : ∃ S, S = sumOfW bs := ⟨_, rfl⟩
  rw [← hk]
  rw [← hS] at HH HC hs hb
  have HSB : Hid _ := hb
  clear hok hL hk hS hb
  obtain ⟨Q, hQ⟩ : ∃ Q, Q = mul6 base6 (val k).toNat := ⟨_, rfl⟩
  rw [← hQ] at HM HY
  clear hQ
  go_enter Tryz.func48, Tryz.ntmps48
  go_wp2_with fail
  refine (HB.out _).mono ?_
  rintro e y1 ⟨rfl, hb1⟩
  go_wp2_with fail
  refine (HH.out _ (hx.below hb1)).mono ?_
  rintro e y2 ⟨v, rfl, ho, hb2⟩
  have b2 := hb1.trans (hb2.mono hb1.size)
  obtain ⟨a2, c2, rfl, hc2, hB2⟩ := Bs.own ho HSB.out
  have hcc : (32 : Int) ≤ (c2 : Int) := by have := hB2.2.2.1; omega
  clear hb1 hb2 ho HB HH hx
  go_wp2_with fail
  refine (HC.out _ _ _ (hB2.takeW (m := 32) (by omega))).mono ?_
  rintro e y3 ⟨rfl, hb3⟩
  replace b2 := b2.trans (hb3.mono b2.size)
  clear hb3 hB2
  go_wp2_with fail
  refine (HM.out _).mono ?_
  rintro e y4 ⟨rfl, hb4⟩
  replace b2 := b2.trans (hb4.mono b2.size)
  clear hb4
  go_wp2_with fail
  refine (HY.out _).mono ?_
  rintro e y5 ⟨v, rfl, ho, hb5⟩
  go_wp2
  go_ret2
  exact ⟨v, rfl, own_base ho b2.size, b2.trans (hb5.mono b2.size)⟩
 ·have hok : pbOk bs = false := by unfold pbOk; exact decide_eq_false (by omega)
  have hL : pbL bs = [] := by unfold pbL; rw [if_neg (by simp [hok])]
  rw [hok, hL]
  have hne : ((n : Int) != 32) = true := by simp; omega
  go_enter Tryz.func48, Tryz.ntmps48
  go_wp2
  go_ret2
  exact ⟨_, rfl, World.ownsRow_nil _ _ _ _, Below.refl _ _⟩
end Go.Proofs.YtihoaakbkffejaaGreatDoor

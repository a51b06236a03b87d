/-
  What is proved here: the contracts of the program's limbsRead and bytes: limbs out of 32 bytes, and back; the contract of the program's ScRead; where the program's variable holds the order; what a function of two multipliers answers, as a plain function; the contracts of the program's multipliersOf, ScAdd and ScMul; where the program's variable holds the order; contracts of the program's methods sum and orderSettled: the sum of two multipliers; what is below 2^270 brought below the order; where the program's variable holds the order; the contracts of the program's ScAdd and ScMul: the sum and the product of two multipliers; where the program's variable holds the order; an append of zeros onto a row of bytes that the call itself owns; the bytes of one, as the laws make them.
-/
import Derived.Test.YtihoaakbkffejaaDoorZJa
import Derived.Test.YtihoaakbkffejaaDoorZFw
import Derived.Test.YtihoaakbkffejaaDoorZJc
import Derived.Test.YtihoaakbkffejaaDoorZArr
import Derived.Test.YtihoaakbkffejaaDoorZYh
import Derived.Test.YtihoaakbkffejaaDoorZQa
import Derived.Test.YtihoaakbkffejaaDoorZOhm
import Derived.Test.YtihoaakbkffejaaDoorZJhi
import Derived.Test.YtihoaakbkffejaaDoorZOhb
import Derived.Test.YtihoaakbkffejaaDoorZFyq
import Derived.Lib.AppendZerosOnto
import Derived.Maps.AppendAt
namespace Go.Proofs.YtihoaakbkffejaaDoor
open Go.RowKit
set_option maxRecDepth 100000

/-- What is read of the first k bytes. -/
def rdP (bs : List Int) (k : Nat) : List Int := (List.range 16).map fun i => (if 2 * i < k then bs.getD (2 * i) 0 else 0) + 256 * (if 2 * i + 1 < k then bs.getD (2 * i + 1) 0 else 0)
theorem rdP_len (bs : List Int) (k : Nat) : (rdP bs k).length = 16 := by simp [rdP]
theorem rdP_zero (bs : List Int) : rdP bs 0 = Z16 := by simp [rdP]; rfl
theorem rdP_end (bs : List Int) : rdP bs 32 = rdL bs := by
  unfold rdP rdL
  apply List.map_congr_left
  intro i hi
  have := List.mem_range.1 hi
  rw [if_pos (by omega), if_pos (by omega)]
theorem rdP_get (bs : List Int) (k i : Nat) (h : i < 16) : (rdP bs k).getD i 0 = (if 2 * i < k then bs.getD (2 * i) 0 else 0) + 256 * (if 2 * i + 1 < k then bs.getD (2 * i + 1) 0 else 0) := by
  simp [rdP, h]
theorem rdP_set (bs : List Int) (k j : Nat) (hj : j = k / 2) (hk : k < 32) (v : Int) (hv : v = (rdP bs (k + 1)).getD j 0) : (I64 (rdP bs k)).set j (.int .i64 v) = I64 (rdP bs (k + 1)) := by
  rw [← List.map_set]
  congr 1
  have ge : ∀ m i, (rdP bs m)[i]? = if i < 16 then some ((rdP bs m).getD i 0) else none := by
    intro m i
    split
    · rename_i h; rw [List.getD, List.getElem?_eq_getElem (by rw [rdP_len]; exact h)]; rfl
    · rename_i h; rw [List.getElem?_eq_none (by rw [rdP_len]; omega)]
  apply List.ext_getElem?
  intro i
  rw [List.getElem?_set, ge, ge, rdP_len]
  by_cases e : j = i
  · subst e
    rw [if_pos rfl, if_pos (by omega), if_pos (by omega), hv]
  · rw [if_neg e]
    by_cases hi : i < 16
    · rw [if_pos hi, if_pos hi, rdP_get bs k i hi, rdP_get bs (k + 1) i hi]
      have e1 : (2 * i < k) ↔ (2 * i < k + 1) := by omega
      have e2 : (2 * i + 1 < k) ↔ (2 * i + 1 < k + 1) := by omega
      simp only [e1, e2]
    · rw [if_neg hi, if_neg hi]
theorem rdP_even (bs : List Int) (k j : Nat) (hj : k = 2 * j) (hk : k < 32) : (rdP bs k).getD j 0 = 0 ∧ (rdP bs (k + 1)).getD j 0 = bs.getD k 0 := by
  subst hj
  rw [rdP_get _ _ _ (by omega), rdP_get _ _ _ (by omega), if_neg (by omega), if_neg (by omega), if_pos (by omega), if_neg (by omega)]
  omega
theorem rdP_odd (bs : List Int) (k j : Nat) (hj : k = 2 * j + 1) (hk : k < 32) : (rdP bs k).getD j 0 = bs.getD (2 * j) 0 ∧ (rdP bs (k + 1)).getD j 0 = bs.getD (2 * j) 0 + 256 * bs.getD k 0 := by
  subst hj
  rw [rdP_get _ _ _ (by omega), rdP_get _ _ _ (by omega), if_pos (by omega), if_neg (by omega), if_pos (by omega), if_pos (by omega)]
  omega
/-- Whether there are as many bytes; the limbs, or none. -/
def rdB (bs : List Int) : Bool := decide (bs.length = 32)
def rdZ (bs : List Int) : List Int := if rdB bs = true then rdL bs else Z16
theorem or_zero {x : Int} (h0 : 0 ≤ x) (h1 : x < 256) : bits .or .i64 0 x = x := by
  have := bits_join .i64 63 (by decide) (fun n a b => by rw [IntKind.wrap_i64]; omega) 8 0 x (by omega) (by decide) (by decide) h0 (by omega) (by omega)
  rw [this]; omega
theorem or_high {x y : Int} (h0 : 0 ≤ x) (h1 : x < 256) (g0 : 0 ≤ y) (g1 : y < 256) : bits .or .i64 y (x * 256) = y + 256 * x := by
  have := bits_join .i64 63 (by decide) (fun n a b => by rw [IntKind.wrap_i64]; omega) 8 (x * 256) y (by omega) (by omega) (by omega) g0 (by omega) (by omega)
  have hc : bits .or .i64 y (x * 256) = bits .or .i64 (x * 256) y := by unfold bits; simp only [BitVec.or_comm]
  rw [hc, this]; omega

set_option maxHeartbeats 4000000 in
theorem implLimbsRead (a : Option Addr) (n c : Nat) (bs : List Int) (w : World) (hx : Bs w a n c bs) :
    Calls Tryd.prog 44 #[.slice a n c] w fun e w' => e = .returned (.tuple #[.agg (I64 (rdZ bs)).toArray, .bool (rdB bs)]) ∧ Below w.heap.size w w' := by
  obtain ⟨_, hl, hc, hr, hx⟩ := hx
  obtain ⟨L, hL⟩ : ∃ L, L = rdZ bs := ⟨_, rfl⟩
  obtain ⟨r, hrr⟩ : ∃ r, r = rdB bs := ⟨_, rfl⟩
  have HLr : Hid (L = if r = true then rdL bs else Z16) := by unfold Hid; rw [hL, hrr]; rfl
  have HRR : Hid _ := hrr
  rw [← hL, ← hrr]
  clear hL hrr
  obtain ⟨W, hW⟩ : ∃ W, W = (w.alloc (.cells #[.int .i64 0, .int .i64 0, .int .i64 0, .int .i64 0, .int .i64 0, .int .i64 0, .int .i64 0, .int .i64 0, .int .i64 0, .int .i64 0, .int .i64 0, .int .i64 0, .int .i64 0, .int .i64 0, .int .i64 0, .int .i64 0] 81)).alloc (.cells #[.int .i64 0, .int .i64 0, .int .i64 0, .int .i64 0, .int .i64 0, .int .i64 0, .int .i64 0, .int .i64 0, .int .i64 0, .int .i64 0, .int .i64 0, .int .i64 0, .int .i64 0, .int .i64 0, .int .i64 0, .int .i64 0] 81) := ⟨_, rfl⟩
  have g1 : Arr W w.heap.size 81 (I64 Z16) := by rw [hW]; exact (Arr.new w (I64 Z16) _).alloc _
  have g0 : Arr W (w.heap.size + 1) 81 (I64 Z16) := by
    rw [hW]
    have := Arr.new (w.alloc (.cells (I64 Z16).toArray 81)) (I64 Z16) 81
    rw [World.size_alloc] at this
    exact this
  have gB : Below w.heap.size w W := by rw [hW]; exact ((Below.refl _ _).alloc (Nat.le_refl _) _).alloc (by simp) _
  by_cases hn : n = 32
  rotate_left
  · have hf : r = false := by rw [HRR.out]; unfold rdB; simp [show ¬ bs.length = 32 by omega]
    have HE : Hid (L = Z16) := by unfold Hid; rw [HLr.out, hf]; rfl
    have hn' : ((n : Int) != 32) = true := by simp; omega
    have hn'' : ¬ ((n : Int) = 32) := by omega
    have g0' := hW ▸ g0
    have g1' := hW ▸ g1
    have h2 := g1'.row (I64 Z16)
    have HB := setRow_below (hW ▸ gB) w.heap.size (I64 Z16).toArray (Nat.le_refl _)
    clear hx hr HRR HLr g0 g1 gB hW
    go_enter Tryd.func44, Tryd.ntmps44
    go_wp2_with (first
      | (refine wpList_load_row rfl 81 _ rfl (w.heap.size + 1) rfl 81 (I64 Z16).toArray (0, 0) _ g0' Tryd.underlying81 rfl infoL ?_)
      | (refine wpList_store_row rfl 81 _ _ rfl w.heap.size (I64 Z16).toArray rfl rfl 81 _ g1' infoL rfl (by simp [Value.oneCell']) ?_))
    exact bodyPost_ret (results_row_tmp (v := .bool false) (cs := I64 Z16) rfl rfl rfl h2 Tryd.underlying81 rfl infoL) rfl ⟨by first | rw [hf, HE.out] | rw [HE.out], HB⟩
  subst hn
  rcases hx with hx | ⟨b, o, rfl, hbs, hcell⟩
  · omega
  have hr' := gD_u8 hr
  have HU8 : Hid _ := hr'
  clear hr hr'
  go_enter Tryd.func44, Tryd.ntmps44
  go_wp2
  rw [← hW]
  clear hW
  go_loopw [13] (fun i wr => ∃ k : Nat, k ≤ 32 ∧ i = .int .i64 k ∧ Arr wr (w.heap.size + 1) 81 (I64 (rdP bs k)) ∧ Arr wr w.heap.size 81 (I64 Z16) ∧ Below w.heap.size w wr) (fun i _ => 32 - (intOf i).toNat)
  case atStart => exact ⟨0, by omega, rfl, by rw [rdP_zero]; exact g0, g1, gB⟩
  case round =>
    clear g0 g1 gB
    obtain ⟨k, hk, rfl, g0, g1, gB⟩ := hrel
    have hPl := rdP_len bs k
    by_cases hlt : k < 32
    · obtain ⟨x, hx⟩ : ∃ x, x = bs.getD k 0 := ⟨_, rfl⟩
      have hxb := HU8.out k
      rw [← hx] at hxb
      have hck : wr.cell? ⟨b, o + k, none⟩ = some (.int .u8 x) := by rw [hx]; exact (gB.cell (p := ⟨b, o + k, none⟩) hbs).trans (hcell k hlt)
      have hk32 : (k : Int) < 32 := by omega
      have hk0 : (0 : Int) ≤ (k : Int) := by omega
      obtain ⟨j, hj⟩ : ∃ j, j = k / 2 := ⟨_, rfl⟩
      have hj16 : j < 16 := by omega
      have q1 : (k : Int) / 2 = (j : Int) := by omega
      have q2 : (j : Int) < 16 := by omega
      have q3 : (0 : Int) ≤ (j : Int) := by omega
      have c1 : IntKind.i64.wrap x = x := by rw [IntKind.wrap_i64]; omega
      have hset := fun v hv => rdP_set bs k j hj hlt v hv
      have hfz := g0.frozen j
      by_cases hpar : k % 2 = 0
      · obtain ⟨h1, h2⟩ := rdP_even bs k j (by omega) hlt
        rw [← hx] at h2
        have cz : wr.cell? ⟨w.heap.size + 1, j, none⟩ = some (.int .i64 0) := by rw [g0.i64 j (by omega), h1]
        have g0' := g0.set j (.int .i64 x)
        rw [hset x h2.symm] at g0'
        have g1' := g1.other ⟨w.heap.size + 1, j, none⟩ (.int .i64 x) (by simp)
        have gB' := gB.setCell (p := ⟨w.heap.size + 1, j, none⟩) (by simp) (.int .i64 x)
        have r1 : (k : Int) % 2 = 0 := by omega
        have o1 := or_zero hxb.1 hxb.2
        have H0 : Hid _ := g0'.drew
        have H1 : Hid _ := g1'.drew
        have HB : Hid _ := gB'.drew
        clear g0' g1' gB' g0 g1 gB hx hset h1 h2 hpar hcell hPl hj
        go_wp2
        go_region
        clear hck cz hfz
        go_wp2
        go_roundw
        case rel => exact ⟨k + 1, by omega, by go_num, H0.out, H1.out, HB.out⟩
        case measure => simp [intOf]; omega
      · obtain ⟨h1, h2⟩ := rdP_odd bs k j (by omega) hlt
        obtain ⟨y, hy⟩ : ∃ y, y = bs.getD (2 * j) 0 := ⟨_, rfl⟩
        have hyb := HU8.out (2 * j)
        rw [← hy] at hyb h1 h2
        rw [← hx] at h2
        have cz : wr.cell? ⟨w.heap.size + 1, j, none⟩ = some (.int .i64 y) := by rw [g0.i64 j (by omega), h1]
        have g0' := g0.set j (.int .i64 (y + 256 * x))
        rw [hset _ h2.symm] at g0'
        have g1' := g1.other ⟨w.heap.size + 1, j, none⟩ (.int .i64 (y + 256 * x)) (by simp)
        have gB' := gB.setCell (p := ⟨w.heap.size + 1, j, none⟩) (by simp) (.int .i64 (y + 256 * x))
        have r1 : (k : Int) % 2 = 1 := by omega
        have o1 := or_high hxb.1 hxb.2 hyb.1 hyb.2
        have o2 : IntKind.i64.wrap (x * 256) = x * 256 := by rw [IntKind.wrap_i64]; omega
        have H0 : Hid _ := g0'.drew
        have H1 : Hid _ := g1'.drew
        have HB : Hid _ := gB'.drew
        clear g0' g1' gB' g0 g1 gB hx hy hset h1 h2 hpar hcell hPl hj
        go_wp2
        go_region
        clear hck cz hfz
        go_wp2
        go_roundw
        case rel => exact ⟨k + 1, by omega, by go_num, H0.out, H1.out, HB.out⟩
        case measure => simp [intOf]; omega
    · obtain rfl : k = 32 := by omega
      rw [rdP_end] at g0
      have hRl := rdL_len bs
      have hf : r = true := by rw [HRR.out]; unfold rdB; simp [hl]
      have hE : L = rdL bs := by rw [HLr.out, hf]; rfl
      obtain ⟨R, hR⟩ : ∃ R, R = rdL bs := ⟨_, rfl⟩
      rw [← hR] at g0 hRl hE
      have hix : (Tryd.prog.info? 81).map (·.size) = some (I64 R).toArray.size := by simpa [hRl] using infoL
      have h2 := g1.row (I64 R)
      have HB := setRow_below gB w.heap.size (I64 R).toArray (Nat.le_refl _)
      have HE : Hid _ := hE
      have HF : Hid _ := hf
      clear hcell hPl hE hR hf
      go_wp2_with (first
        | (refine wpList_load_row rfl 81 _ rfl (w.heap.size + 1) rfl 81 (I64 R).toArray (0, 0) _ g0 Tryd.underlying81 rfl hix ?_)
        | (refine wpList_store_row rfl 81 _ _ rfl w.heap.size (I64 R).toArray rfl rfl 81 _ g1 hix (by simp [hRl]) (by simp [Value.oneCell']) ?_))
      exact bodyPost_ret (results_row_tmp (v := .bool true) (cs := I64 R) rfl rfl rfl h2 Tryd.underlying81 rfl (by simpa [hRl] using infoL)) rfl ⟨by rw [HF.out, HE.out], HB⟩

theorem Bs.two (w : World) (x y : Int) (h0 : 0 ≤ x) (h1 : x < 256) (g0 : 0 ≤ y) (g1 : y < 256) : Bs (w.alloc (.cells #[.int .u8 x, .int .u8 y] 5)) (some ⟨w.heap.size, 0, none⟩) 2 2 [x, y] := by
  refine ⟨(fun h => by cases h), rfl, Nat.le_refl _, ?_, .inr ⟨w.heap.size, 0, rfl, by simp, ?_⟩⟩
  · intro z hz; simp at hz; omega
  · intro j hj
    have : j = 0 ∨ j = 1 := by omega
    rcases this with rfl | rfl <;> (rw [World.cell?_alloc_at _ _ _ _ rfl]; rfl)

set_option maxHeartbeats 2000000 in
theorem implBytes (l : List Int) (w : World) (hl : l.length = 16) (hm : Lm l) :
    Calls Tryd.prog 57 #[.agg (I64 l).toArray] w fun e w' => ∃ v, e = .returned v ∧ w'.ownsRow w.heap.size 5 1 v 32 (U8 (btL l)) ∧ Below w.heap.size w w' := by
  obtain ⟨C, hC⟩ : ∃ C : Array Value, C = Array.replicate 32 (.int .u8 0) := ⟨_, rfl⟩
  have hCs : C.size = 32 * 1 := by rw [hC]; simp
  obtain ⟨W, hW⟩ : ∃ W, W = w.alloc (.cells (I64 l).toArray 81) := ⟨_, rfl⟩
  have g0 : Arr W w.heap.size 81 (I64 l) := by rw [hW]; exact Arr.new w (I64 l) _
  have gB : Below w.heap.size w W := by rw [hW]; exact (Below.refl _ _).alloc (Nat.le_refl _) _
  have gs : W.heap.size = w.heap.size + 1 := by rw [hW]; simp
  obtain ⟨A, hA⟩ : ∃ A, A = (I64 l).toArray := ⟨_, rfl⟩
  rw [← hA] at hW ⊢
  have hil : (Tryd.prog.info? 81).map (·.size) = some (I64 l).toArray.size := by simpa [hl] using infoL
  have hmk : ∀ Z : World, (Instr.makeSlice 22 (.int .i64 0) (.int .i64 32)).run Tryd.prog Z = .ok (.slice (some ⟨Z.heap.size, 0, none⟩) 0 32) (Z.alloc (.cells C 5)) := by
    intro Z
    obtain ⟨i0, hi, hz0, hz1, hz2⟩ := info_parts Tryd.info5
    have := run_make (P := Tryd.prog) Z 22 5 i0 (.int .u8 0) Tryd.underlying22 hi hz0 .i64 .i64 0 32 (by omega) (by omega) (by rw [hz2]; omega) (by omega)
    rw [this, hz1, show madeCells (Value.int .u8 0).cells (Int.toNat 32 * 1) = C by rw [hC]; kernel_rfl]
    rfl
  have o0 : (W.alloc (.cells C 5)).ownsRow (w.heap.size + 1) 5 1 (.slice (some ⟨W.heap.size, 0, none⟩) 0 32) 0 (U8 (btL (l.take 0))) := by
    have := World.ownsRow_made (base := w.heap.size + 1) (e := 5) (size := 1) W C 32 (by omega) (by unfold maxLen; omega) hCs
    simpa [btL] using this
  have g1 : Arr (W.alloc (.cells C 5)) w.heap.size 81 (I64 l) := g0.alloc _
  have gB1 : Below w.heap.size w (W.alloc (.cells C 5)) := gB.alloc gB.size _
  have gs1 : w.heap.size + 1 ≤ (W.alloc (.cells C 5)).heap.size := by simp [gs]
  rw [gs] at o0
  have g1' := hW ▸ g1
  have HW : Hid _ := hW
  clear hA hC hCs g0 gB gs hW
  go_enter Tryd.func57, Tryd.ntmps57
  go_wp2_with (refine wpList_load_row rfl 81 _ rfl w.heap.size rfl 81 (I64 l).toArray (0, 0) _ g1' Tryd.underlying81 rfl hil ?_)
  rw [← HW.out]
  clear g1' HW hmk
  obtain ⟨V, hV⟩ : ∃ V, V = W.alloc (.cells C 5) := ⟨_, rfl⟩
  rw [← hV] at o0 g1 gB1 gs1 ⊢
  clear hV
  go_loopw [3, 8] (fun v i wr => ∃ k : Nat, k ≤ 16 ∧ i = .int .i64 k ∧ wr.ownsRow (w.heap.size + 1) 5 1 v (2 * k) (U8 (btL (l.take k))) ∧ Below w.heap.size w wr ∧ w.heap.size + 1 ≤ wr.heap.size) (fun _ i _ => 16 - (intOf i).toNat)
  case atStart => exact ⟨0, by omega, rfl, o0, gB1, gs1⟩
  case round =>
    clear o0 g1 gB1 gs1
    obtain ⟨k, hk, rfl, hown, gB, gs⟩ := hrel
    by_cases hlt : k < 16
    · have ix := fun w => index_arr Tryd.underlying81 Tryd.underlying3 infoL1 l hl k hlt w
      obtain ⟨x, hx⟩ : ∃ x, x = l.getD k 0 := ⟨_, rfl⟩
      rw [← hx] at ix
      have hxb := gD_lm hm k
      rw [← hx] at hxb
      obtain ⟨hx0, hx1⟩ := hxb
      have hnx := btL_snoc l k (by omega)
      rw [← hx] at hnx
      have HN : Hid _ := hnx
      clear hx hnx
      have s1 : IntKind.u8.wrap x = x % 256 := by rw [IntKind.wrap_u8]
      have s2 : IntKind.u8.wrap (x / 256) = x / 256 := by rw [IntKind.wrap_u8]; omega
      have hk16 : (k : Int) < 16 := by omega
      go_wp2_with (at_builtin; refine wpl_append_bs rfl _ _ rfl (w.heap.size + 1) _ (2 * k) (btL (l.take k)) rfl (some ⟨wr.heap.size, 0, none⟩) 2 2 [x % 256, x / 256] rfl (hown.alloc _) ?_ ?_ ?_ ?_)
      · exact Bs.two _ _ _ (by omega) (by omega) (by omega) (by omega)
      · omega
      · first | omega | (simp; omega)
      intro v' w' h1 h2 _
      have hbA : Below (w.heap.size + 1) wr w' := ((Below.refl _ _).alloc (by omega) _).grown h2 (by simp; omega) (fun j hj => (hown.lt j hj).1)
      have gB' := gB.trans (hbA.mono (by omega))
      have gs' := Nat.le_trans gs hbA.size
      have HR : Hid (w'.ownsRow (w.heap.size + 1) 5 1 v' (2 * (k + 1)) (U8 (btL (l.take (k + 1))))) := by
        unfold Hid
        rw [HN.out, show 2 * (k + 1) = 2 * k + 2 by omega]; simpa using h1
      clear h1 h2 hown gB hbA HN ix
      go_wp2
      go_roundw
      case rel => exact ⟨k + 1, by omega, by go_num, HR.out, gB', gs'⟩
      case measure => simp [intOf]; omega
    · obtain rfl : k = 16 := by omega
      rw [List.take_of_length_le (by omega)] at hown
      have HO : Hid _ := own_base hown (show w.heap.size ≤ w.heap.size + 1 by omega)
      clear hown
      go_wp2
      go_ret
      exact ⟨_, rfl, HO.out, gB⟩
end Go.Proofs.YtihoaakbkffejaaDoor
namespace Go.Proofs.YtihoaakbkffejaaDoor
open Go.RowKit
set_option maxRecDepth 100000

/-- The result's cell of a function that answers a multiplier. -/
structure S1r (w W : World) : Prop where
  fr : Below w.heap.size w W
  pr : Arr W w.heap.size 39 [.slice none 0 0]
theorem S1r.go {w A B : World} (h : S1r w A) (hb : Below A.heap.size A B) : S1r w B := ⟨h.fr.trans (hb.mono h.fr.size), h.pr.kept hb⟩

end Go.Proofs.YtihoaakbkffejaaDoor
namespace Go.Proofs.YtihoaakbkffejaaDoor
open Go.RowKit
set_option maxRecDepth 100000

end Go.Proofs.YtihoaakbkffejaaDoor
namespace Go.Proofs.YtihoaakbkffejaaDoor
open Go.RowKit
set_option maxRecDepth 100000

/-- The two boxes and the results' two cells of multipliersOf. -/
structure P4 (w W : World) (va vb : Value) : Prop where
  fr : Below w.heap.size w W
  pa : Arr W w.heap.size 39 [va]
  pb : Arr W (w.heap.size + 1) 39 [vb]
  r1 : Arr W (w.heap.size + 2) 85 (I64 Z16)
  r2 : Arr W (w.heap.size + 3) 85 (I64 Z16)
  vr : Vr W 5 (I64 OL)
theorem P4.go {w A B : World} {va vb : Value} (h : P4 w A va vb) (hb : Below A.heap.size A B) : P4 w B va vb := ⟨h.fr.trans (hb.mono h.fr.size), h.pa.kept hb, h.pb.kept hb, h.r1.kept hb, h.r2.kept hb, h.vr.kept hb⟩
theorem P4.new {w : World} (va vb : Value) (h : Vr w 5 (I64 OL)) : P4 w ((((w.alloc (.cells #[va] 39)).alloc (.cells #[vb] 39)).alloc (.cells (I64 Z16).toArray 85)).alloc (.cells (I64 Z16).toArray 85)) va vb := by
  have b1 : Below w.heap.size w (w.alloc (.cells #[va] 39)) := (Below.refl _ _).alloc (Nat.le_refl _) _
  have b2 := b1.alloc (by simp) (.cells #[vb] 39)
  have b3 := b2.alloc (by simp; omega) (.cells (I64 Z16).toArray 85)
  have hb := b3.alloc (by simp; omega) (.cells (I64 Z16).toArray 85)
  refine ⟨hb, (((Arr.new w [va] _).alloc _).alloc _).alloc _, ?_, ?_, ?_, h.kept hb⟩
  · have := ((Arr.new (w.alloc (.cells #[va] 39)) [vb] 39).alloc (.cells (I64 Z16).toArray 85)).alloc (.cells (I64 Z16).toArray 85)
    rw [World.size_alloc] at this
    exact this
  · have := (Arr.new ((w.alloc (.cells #[va] 39)).alloc (.cells #[vb] 39)) (I64 Z16) 85).alloc (.cells (I64 Z16).toArray 85)
    rw [World.size_alloc, World.size_alloc] at this
    exact this
  · have := Arr.new (((w.alloc (.cells #[va] 39)).alloc (.cells #[vb] 39)).alloc (.cells (I64 Z16).toArray 85)) (I64 Z16) 85
    rw [World.size_alloc, World.size_alloc, World.size_alloc] at this
    exact this

end Go.Proofs.YtihoaakbkffejaaDoor
namespace Go.Proofs.YtihoaakbkffejaaDoor
open Go.RowKit
set_option maxRecDepth 100000

/-- Two multipliers that are read, the result's cell, and the program's order. -/
structure M4 (w W : World) (a b : List Int) : Prop where
  fr : Below w.heap.size w W
  pa : Arr W w.heap.size 85 (I64 a)
  pb : Arr W (w.heap.size + 1) 85 (I64 b)
  pr : Arr W (w.heap.size + 2) 85 (I64 Z16)
  vr : Vr W 5 (I64 OL)
  g0 : 5 < w.heap.size
theorem M4.go {w A B : World} {a b : List Int} (h : M4 w A a b) (hb : Below A.heap.size A B) : M4 w B a b := ⟨h.fr.trans (hb.mono h.fr.size), h.pa.kept hb, h.pb.kept hb, h.pr.kept hb, h.vr.kept hb, h.g0⟩
theorem M4.all {w W : World} {a b : List Int} (h : M4 w W a b) : W.rangeAt w.heap.size 0 (I64 a) ∧ W.rangeAt (w.heap.size + 1) 0 (I64 b) ∧ W.rangeAt 5 0 (I64 OL) := ⟨arr_range h.pa, arr_range h.pb, vr_range h.vr⟩
theorem M4.new {w : World} (a b : List Int) (h : Vr w 5 (I64 OL)) : M4 w (((w.alloc (.cells (I64 a).toArray 85)).alloc (.cells (I64 b).toArray 85)).alloc (.cells (I64 Z16).toArray 85)) a b := by
  have hb : Below w.heap.size w (((w.alloc (.cells (I64 a).toArray 85)).alloc (.cells (I64 b).toArray 85)).alloc (.cells (I64 Z16).toArray 85)) := (((Below.refl _ _).alloc (Nat.le_refl _) _).alloc (by simp) _).alloc (by simp; omega) _
  refine ⟨hb, ((Arr.new w (I64 a) _).alloc _).alloc _, ?_, ?_, h.kept hb, h.lt⟩
  · have := (Arr.new (w.alloc (.cells (I64 a).toArray 85)) (I64 b) 85).alloc (.cells (I64 Z16).toArray 85)
    rw [World.size_alloc] at this
    exact this
  · have := Arr.new ((w.alloc (.cells (I64 a).toArray 85)).alloc (.cells (I64 b).toArray 85)) (I64 Z16) 85
    rw [World.size_alloc, World.size_alloc] at this
    exact this
theorem M4.put {w W : World} {a b R : List Int} (h : M4 w W a b) (hR : R.length = 16) : Arr (W.setCells (w.heap.size + 1 + 1) 0 (I64 R)) (w.heap.size + 1 + 1) 85 (I64 R) ∧ Below w.heap.size w (W.setCells (w.heap.size + 1 + 1) 0 (I64 R)) ∧
    ((W.setCells (w.heap.size + 1 + 1) 0 (I64 R)).rangeAt w.heap.size 0 (I64 a) ∧ (W.setCells (w.heap.size + 1 + 1) 0 (I64 R)).rangeAt (w.heap.size + 1) 0 (I64 b) ∧ (W.setCells (w.heap.size + 1 + 1) 0 (I64 R)).rangeAt 5 0 (I64 OL)) ∧ W.there (w.heap.size + 1 + 1) 0 (I64 R).toArray.size := by
  have hg := h.pa.lt
  have h0 : 5 ≠ w.heap.size + 1 + 1 := by have := h.g0; omega
  exact ⟨Arr.setCells0 h.pr (by simp [hR]), setCells_below (by omega) _ _ h.fr, ⟨arr_range (Arr.setCellsO (by omega) _ _ h.pa), arr_range (Arr.setCellsO (by omega) _ _ h.pb), vr_range (Vr.setCellsO h0 h.vr)⟩, by have := arr_there h.pr; simpa [hR] using this⟩
/-- What is below twice the order is brought below it. -/
theorem implLessO (x : Int) (w : World) (h0 : 0 ≤ x) (h1 : x < 2 * qO) :
    Calls Tryd.prog 88 #[.agg (I64 (lim 16 x)).toArray, .agg (I64 OL).toArray] w fun e w' => e = .returned (.agg (I64 (redO x)).toArray) ∧ Below w.heap.size w w' := by
  have := implLess (lim 16 x) OL w (lim_len _ _) OL_len (lim_lm _ _) OL_lm
  rw [val_lim16 h0 h1, OL_val] at this
  have hls := lessO h0 h1
  have e : lim 16 (if x < qO then x else x - qO) = redO x := by
    split
    · rename_i h; exact hls.1 h
    · rename_i h; exact hls.2 h
  rw [e] at this
  exact this

end Go.Proofs.YtihoaakbkffejaaDoor
namespace Go.Proofs.YtihoaakbkffejaaDoor
open Go.RowKit
set_option maxRecDepth 100000

/-- The two boxes and the result's cell. -/
structure S3r (w W : World) (va vb : Value) : Prop where
  fr : Below w.heap.size w W
  pa : Arr W w.heap.size 39 [va]
  pb : Arr W (w.heap.size + 1) 39 [vb]
  pr : Arr W (w.heap.size + 2) 39 [.slice none 0 0]
  vr : Vr W 5 (I64 OL)
theorem S3r.go {w A B : World} {va vb : Value} (h : S3r w A va vb) (hb : Below A.heap.size A B) : S3r w B va vb := ⟨h.fr.trans (hb.mono h.fr.size), h.pa.kept hb, h.pb.kept hb, h.pr.kept hb, h.vr.kept hb⟩
theorem S3r.new {w : World} (va vb : Value) (h : Vr w 5 (I64 OL)) : S3r w (((w.alloc (.cells #[va] 39)).alloc (.cells #[vb] 39)).alloc (.cells #[.slice none 0 0] 39)) va vb := by
  have b1 : Below w.heap.size w (w.alloc (.cells #[va] 39)) := (Below.refl _ _).alloc (Nat.le_refl _) _
  have b2 := b1.alloc (by simp) (.cells #[vb] 39)
  have hb := b2.alloc (by simp; omega) (.cells #[.slice none 0 0] 39)
  refine ⟨hb, ((Arr.new w [va] _).alloc _).alloc _, ?_, ?_, h.kept hb⟩
  · have := (Arr.new (w.alloc (.cells #[va] 39)) [vb] 39).alloc (.cells #[.slice none 0 0] 39)
    rw [World.size_alloc] at this
    exact this
  · have := Arr.new ((w.alloc (.cells #[va] 39)).alloc (.cells #[vb] 39)) [.slice none 0 0] 39
    rw [World.size_alloc, World.size_alloc] at this
    exact this
end Go.Proofs.YtihoaakbkffejaaDoor
namespace Go.Proofs.YtihoaakbkffejaaDoor
open Go.RowKit
set_option maxRecDepth 100000

end Go.Proofs.YtihoaakbkffejaaDoor
namespace Go.Proofs.YtihoaakbkffejaaDoor
open Go.RowKit
set_option maxRecDepth 100000

end Go.Proofs.YtihoaakbkffejaaDoor

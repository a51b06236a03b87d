/-
  What is proved here: the contract of the program's fieldInverse; when two arrays of limbs are equal; where the program's variable holds the prime; the contract of the program's limbsOf: whether a slice of ints is sixteen limbs; the contract of the specification's l4fourth, and what an answer of the field is; the contract of the program's method list on limbs.
-/
import Derived.Test.YtihoaakbkffejaaDoorZJg
import Derived.Test.YtihoaakbkffejaaDoorZFw
import Derived.Test.YtihoaakbkffejaaDoorZFyq
import Derived.Test.YtihoaakbkffejaaDoorZJa
import Derived.Test.YtihoaakbkffejaaDoorZArr
import Derived.Test.YtihoaakbkffejaaDoorZFt
import Derived.Test.YtihoaakbkffejaaDoorZFp
import Derived.Test.YtihoaakbkffejaaDoorZYh
namespace Go.Proofs.YtihoaakbkffejaaDoor
open Go.RowKit
set_option maxRecDepth 100000

theorem two_val : val [2, 0, 0, 0, 0, 0, 0, 0, 0, 0, 0, 0, 0, 0, 0, 0] = 2 := by decide
theorem two_lm : Lm [2, 0, 0, 0, 0, 0, 0, 0, 0, 0, 0, 0, 0, 0, 0, 0] := by unfold Lm; decide
theorem inv_exp : lim 16 (P25519 - 2) = tk16 PL (lim 16 2) := by
  rw [tk16_lim PL_len two_len, PL_val, val_lim]
  rfl
set_option maxHeartbeats 2000000 in
theorem implInverse (a : List Int) (w : World) (ha : feOk a = true) (hV : Vr w 6 (I64 PL)) :
    Calls Tryd.prog 72 #[.agg (I64 a).toArray] w fun e w' => e = .returned (.agg (I64 (invF a)).toArray) ∧ Below w.heap.size w w' := by
  obtain ⟨la16, la, va⟩ := (feOk_iff a).1 ha
  obtain ⟨R, hR⟩ : ∃ R, R = invF a := ⟨_, rfl⟩
  have hRl : R.length = 16 := by rw [hR]; exact red_len _
  obtain ⟨tl, tm, tv⟩ := tk_two
  rw [← inv_exp] at tl tm tv
  obtain ⟨T, hT⟩ : ∃ T, T = lim 16 (P25519 - 2) := ⟨_, rfl⟩
  rw [← hT] at tl tm tv
  have HM : Hid (∀ Z, Calls Tryd.prog 83 #[.agg (I64 PL).toArray, .agg #[.int .i64 2, .int .i64 0, .int .i64 0, .int .i64 0, .int .i64 0, .int .i64 0, .int .i64 0, .int .i64 0, .int .i64 0, .int .i64 0, .int .i64 0, .int .i64 0, .int .i64 0, .int .i64 0, .int .i64 0, .int .i64 0]] Z fun e w' => e = .returned (.agg (I64 T).toArray) ∧ Below Z.heap.size Z w') := by
    unfold Hid; intro Z
    have := implMinus PL [2, 0, 0, 0, 0, 0, 0, 0, 0, 0, 0, 0, 0, 0, 0, 0] Z PL_len rfl PL_lm two_lm
    rw [minus_lim PL_len rfl (by rw [PL_val, two_val]; decide) (by rw [PL_val, two_val]; decide), PL_val, two_val, ← hT] at this
    exact this
  have HPW : Hid (∀ Z, Vr Z 6 (I64 PL) → Calls Tryd.prog 82 #[.agg (I64 a).toArray, .agg (I64 T).toArray] Z fun e w' => e = .returned (.agg (I64 R).toArray) ∧ Below Z.heap.size Z w') := by
    unfold Hid; intro Z hZ
    have hv : val T < 57896044618658097711785492504343953926634992332820282019728792003956564819968 := by
      rw [hT, val_pl (by decide) (by decide)]; decide
    have := implPower a T Z ha tl tm hv hZ
    rw [tv] at this
    rw [hR]
    exact this
  rw [← hR]
  obtain ⟨W, hW⟩ : ∃ W, W = (w.alloc (.cells (I64 a).toArray 81)).alloc (.cells #[.int .i64 0, .int .i64 0, .int .i64 0, .int .i64 0, .int .i64 0, .int .i64 0, .int .i64 0, .int .i64 0, .int .i64 0, .int .i64 0, .int .i64 0, .int .i64 0, .int .i64 0, .int .i64 0, .int .i64 0, .int .i64 0] 81) := ⟨_, rfl⟩
  have EE : L2 w W.drew a := by
    have : L2 w W a := by rw [hW]; exact L2.new a hV
    exact this.go (Below.refl _ _).drew
  obtain ⟨A, hA⟩ : ∃ A, A = (I64 a).toArray := ⟨_, rfl⟩
  rw [← hA] at hW ⊢
  have hia : (Tryd.prog.info? 81).map (·.size) = some (I64 a).length := by simpa [la16] using infoL
  have hip : (Tryd.prog.info? 81).map (·.size) = some (I64 PL).length := infoL
  have hir : (Tryd.prog.info? 81).map (·.size) = some (I64 R).toArray.size := by simpa [hRl] using infoL
  have hu : Tryd.prog.underlying 81 = some (.array 16 3) := Tryd.underlying81
  have hone := one_lm R
  clear hA hV hR hT ha la va tl tm tv
  go_enter Tryd.func72, Tryd.ntmps72
  go_wp2
  rw [← hW]
  clear hW
  refine wp_region_held_drew (S := fun W => W.rangeAt w.heap.size 0 (I64 a) ∧ W.rangeAt 6 0 (I64 PL)) (by kernel_rfl) EE.all (fun hHeld => ?_)
  refine wpAnyH_take (i := 0) (oi := { dst := some 3, op := Op.load 81 (Operand.tmp 1), type := 81, pos := "l04_field.go:260", after := #[], guard := none }) (v := _) rfl (by kernel_rfl) (by kernel_rfl) (by kernel_rfl) (fun _ _ _ h => h) (yieldsIf_load_mid (by rfl) _ _ rfl _ _ rfl (I64 a) _ (fun _ h => h.1) hu rfl hia) (by assumption) ?_
  simp only [Act.put, List.setIfInBounds_toArray, List.set_cons_zero, List.set_cons_succ]
  refine wpAnyH_take (i := 1) (oi := { dst := some 4, op := Op.load 81 (Operand.global 6), type := 81, pos := "l04_field.go:260", after := #[], guard := none }) (v := _) rfl (by kernel_rfl) (by kernel_rfl) (by kernel_rfl) (fun _ _ _ h => h) (yieldsIf_load_mid (by rfl) _ _ rfl _ _ rfl (I64 PL) _ (fun _ h => h.2) hu rfl hip) (by assumption) ?_
  simp only [Act.put, List.setIfInBounds_toArray, List.set_cons_zero, List.set_cons_succ]
  refine wpAnyH_ready (rs := [2]) (by kernel_rfl) (by simp) (AllReadyH.cons (o := { dst := some 5, op := Op.build 81 #[(0, Operand.const (Value.int IntKind.i64 2))], type := 81, pos := "l04_field.go:260", after := #[], guard := none }) rfl (fun K hK => ?_) AllReadyH.nil)
  go_simp
  refine hK.out _ _ EE.all (fun hHeld => ?_)
  clear hK K
  refine wpAnyH_ready (rs := [3]) (by kernel_rfl) (by simp) (AllReadyH.cons (o := { dst := some 6, op := Op.call { callee := Callee.value (Operand.func 83), args := #[Operand.tmp 4, Operand.tmp 5], argTypes := #[81, 81] }, type := 81, pos := "l04_field.go:260", after := #[{ on := 1, ground := Ground.data }, { on := 2, ground := Ground.data }], guard := none }) rfl (fun K hK => ?_) AllReadyH.nil)
  go_simp
  refine (HM.out _).mono ?_
  rintro e w1 ⟨rfl, hb1⟩
  replace EE := EE.go hb1
  go_wp2_with fail
  refine hK.out _ _ EE.all (fun hHeld => ?_)
  clear hK K hb1
  refine wpAnyH_ready (rs := [4]) (by kernel_rfl) (by simp) (AllReadyH.cons (o := { dst := some 7, op := Op.call { callee := Callee.value (Operand.func 82), args := #[Operand.tmp 3, Operand.tmp 6], argTypes := #[81, 81] }, type := 81, pos := "l04_field.go:260", after := #[{ on := 0, ground := Ground.data }, { on := 3, ground := Ground.data }, { on := 3, ground := Ground.chain }], guard := none }) rfl (fun K hK => ?_) AllReadyH.nil)
  go_simp
  refine (HPW.out _ EE.vr).mono ?_
  rintro e w2 ⟨rfl, hb2⟩
  replace EE := EE.go hb2
  go_wp2_with fail
  refine hK.out _ _ EE.all (fun hHeld => ?_)
  clear hK K hb2
  obtain ⟨hA5, hB5, hS5, hth⟩ := EE.put hRl
  refine wpAnyH_ready (rs := [5]) (by kernel_rfl) (by simp) (AllReadyH.cons (o := { dst := none, op := Op.store 81 (Operand.tmp 2) (Operand.tmp 7), type := 0, pos := "l04_field.go:260", after := #[{ on := 4, ground := Ground.data }, { on := 4, ground := Ground.chain }, { on := 0, ground := Ground.phase }, { on := 1, ground := Ground.phase }, { on := 2, ground := Ground.phase }, { on := 3, ground := Ground.phase }, { on := 4, ground := Ground.phase }], guard := none }) rfl (fun K hK => ?_) AllReadyH.nil)
  rw [if_pos (by rfl)]
  refine wp_store_mid _ _ _ rfl _ _ (I64 R).toArray rfl rfl hth hir (all_oneCell_toArray hone) ?_
  simp only [Act.put]
  refine hK.out _ _ hS5 (fun hHeld => ?_)
  clear hK K
  refine wpAnyH_done (by kernel_rfl) ?_ _
  go_wp2
  exact bodyPost_ret (results_cell_row rfl _ _ (w.heap.size + 1) 81 (I64 R).toArray (0, 0) _ rfl hA5 Tryd.underlying81 rfl hir) rfl ⟨rfl, hB5⟩

/-- Two arrays of limbs are compared. -/
theorem run_eqL (a b : List Int) (w : World) (ha : a.length = 16) (hb : b.length = 16) :
    (Op.equalIn 10000 81 (.agg (I64 a).toArray) (.agg (I64 b).toArray)).run Tryd.prog w = .ok (decide (a = b)) w := by
  obtain ⟨i, hi⟩ : ∃ i, Tryd.prog.info? 3 = some i := by
    cases h : Tryd.prog.info? 3 with
    | some i => exact ⟨i, rfl⟩
    | none => have := infoI; rw [h] at this; simp at this
  have hc : Tryd.prog.cellsOf 3 = 1 := by unfold Program.cellsOf; rw [infoI]; rfl
  rw [run_equalIn_array w 9999 _ _ Tryd.underlying81 hi, hc, run_eqItems_i64 a b 9998 w _ (fun i h => by have := List.mem_range.1 h; omega), all_range ha hb]

end Go.Proofs.YtihoaakbkffejaaDoor
namespace Go.Proofs.YtihoaakbkffejaaDoor
open Go.RowKit
set_option maxRecDepth 100000

/-- Whether a slice is sixteen limbs; the limbs, or none. -/
def lmOk (l : List Int) : Bool := decide (l.length = 16) && l.all (fun x => decide (0 ≤ x ∧ x < 65536))
def lmL (l : List Int) : List Int := if lmOk l = true then l else Z16
theorem lmOk_iff (l : List Int) : lmOk l = true ↔ l.length = 16 ∧ Lm l := by
  unfold lmOk Lm
  simp only [Bool.and_eq_true, decide_eq_true_eq, List.all_eq_true]
theorem lmL_len (l : List Int) : (lmL l).length = 16 := by
  unfold lmL
  split
  · rename_i h; exact ((lmOk_iff l).1 h).1
  · rfl
theorem lmOk_no {xs : List Int} {k : Nat} (h : ¬ (0 ≤ xs.getD k 0 ∧ xs.getD k 0 < 65536)) : lmOk xs = false := by
  cases e : lmOk xs with
  | false => rfl
  | true => exact absurd (gD_lm ((lmOk_iff xs).1 e).2 k) h

set_option maxHeartbeats 2000000 in
theorem implLimbsOf (a : Option Addr) (n c : Nat) (xs : List Int) (w : World) (hx : Is w a n c xs) :
    Calls Tryd.prog 51 #[.slice a n c] w fun e w' => e = .returned (.tuple #[.agg (I64 (lmL xs)).toArray, .bool (lmOk xs)]) ∧ Below w.heap.size w w' := by
  obtain ⟨_, hl, hc, hr, hx⟩ := hx
  obtain ⟨L, hL⟩ : ∃ L, L = lmL xs := ⟨_, rfl⟩
  obtain ⟨r, hrr⟩ : ∃ r, r = lmOk xs := ⟨_, rfl⟩
  have HLr : Hid (L = if r = true then xs else Z16) := by unfold Hid; rw [hL, hrr]; rfl
  have HRR : Hid _ := hrr
  rw [← hL, ← hrr]
  clear hL hrr
  obtain ⟨W, hW⟩ : ∃ W, W = (w.alloc (.cells #[.int .i64 0, .int .i64 0, .int .i64 0, .int .i64 0, .int .i64 0, .int .i64 0, .int .i64 0, .int .i64 0, .int .i64 0, .int .i64 0, .int .i64 0, .int .i64 0, .int .i64 0, .int .i64 0, .int .i64 0, .int .i64 0] 81)).alloc (.cells #[.int .i64 0, .int .i64 0, .int .i64 0, .int .i64 0, .int .i64 0, .int .i64 0, .int .i64 0, .int .i64 0, .int .i64 0, .int .i64 0, .int .i64 0, .int .i64 0, .int .i64 0, .int .i64 0, .int .i64 0, .int .i64 0] 81) := ⟨_, rfl⟩
  have g1 : Arr W w.heap.size 81 (I64 Z16) := by rw [hW]; exact (Arr.new w (I64 Z16) _).alloc _
  have g0 : Arr W (w.heap.size + 1) 81 (I64 (xs.take 0 ++ Z16.drop 0)) := by
    rw [hW]
    have := Arr.new (w.alloc (.cells (I64 Z16).toArray 81)) (I64 Z16) 81
    rw [World.size_alloc] at this
    exact this
  have gB : Below w.heap.size w W := by rw [hW]; exact ((Below.refl _ _).alloc (Nat.le_refl _) _).alloc (by simp) _
  by_cases hn : n = 16
  rotate_left
  · have hf : r = false := by rw [HRR.out]; unfold lmOk; simp [show ¬ xs.length = 16 by omega]
    have HE : Hid (L = Z16) := by unfold Hid; rw [HLr.out, hf]; rfl
    have hn' : ((n : Int) != 16) = true := by simp; omega
    have hn'' : ¬ ((n : Int) = 16) := by omega
    have g0' : Arr ((w.alloc (.cells #[.int .i64 0, .int .i64 0, .int .i64 0, .int .i64 0, .int .i64 0, .int .i64 0, .int .i64 0, .int .i64 0, .int .i64 0, .int .i64 0, .int .i64 0, .int .i64 0, .int .i64 0, .int .i64 0, .int .i64 0, .int .i64 0] 81)).alloc (.cells #[.int .i64 0, .int .i64 0, .int .i64 0, .int .i64 0, .int .i64 0, .int .i64 0, .int .i64 0, .int .i64 0, .int .i64 0, .int .i64 0, .int .i64 0, .int .i64 0, .int .i64 0, .int .i64 0, .int .i64 0, .int .i64 0] 81)) (w.heap.size + 1) 81 (I64 Z16) := hW ▸ g0
    have g1' := hW ▸ g1
    have h2 := g1'.row (I64 Z16)
    have HB := setRow_below (hW ▸ gB) w.heap.size (I64 Z16).toArray (Nat.le_refl _)
    clear hx hr HRR HLr g0 g1 gB hW
    go_enter Tryd.func51, Tryd.ntmps51
    go_wp2_with (first
      | (refine wpList_load_row rfl 81 _ rfl (w.heap.size + 1) rfl 81 (I64 Z16).toArray (0, 0) _ g0' Tryd.underlying81 rfl infoL ?_)
      | (refine wpList_store_row rfl 81 _ _ rfl w.heap.size (I64 Z16).toArray rfl rfl 81 _ g1' infoL rfl (by simp [Value.oneCell']) ?_))
    exact bodyPost_ret (results_row_tmp (v := .bool false) (cs := I64 Z16) rfl rfl rfl h2 Tryd.underlying81 rfl infoL) rfl ⟨by first | rw [hf, HE.out] | rw [HE.out], HB⟩
  subst hn
  rcases hx with hx | ⟨b, o, rfl, hbs, hcell⟩
  · omega
  go_enter Tryd.func51, Tryd.ntmps51
  go_wp2
  rw [← hW]
  clear hW
  go_loopw [13] (fun i wr => ∃ k : Nat, k ≤ 16 ∧ i = .int .i64 k ∧ (∀ j, j < k → 0 ≤ xs.getD j 0 ∧ xs.getD j 0 < 65536) ∧ Arr wr (w.heap.size + 1) 81 (I64 (xs.take k ++ Z16.drop k)) ∧ Arr wr w.heap.size 81 (I64 Z16) ∧ Below w.heap.size w wr) (fun i _ => 16 - (intOf i).toNat)
  case atStart => exact ⟨0, by omega, rfl, fun j hj => by omega, g0, g1, gB⟩
  case round =>
    clear g0 g1 gB
    obtain ⟨k, hk, rfl, hin, g0, g1, gB⟩ := hrel
    have hfl : (xs.take k).length = k := by simp; omega
    by_cases hlt : k < 16
    · obtain ⟨x, hx⟩ : ∃ x, x = xs.getD k 0 := ⟨_, rfl⟩
      have hck : wr.cell? ⟨b, o + k, none⟩ = some (.int .i64 x) := by rw [hx]; exact (gB.cell (p := ⟨b, o + k, none⟩) hbs).trans (hcell k hlt)
      have hk16 : (k : Int) < 16 := by omega
      have hk0 : (0 : Int) ≤ (k : Int) := by omega
      by_cases hgood : 0 ≤ x ∧ x < 65536
      · obtain ⟨hx0, hx1⟩ := hgood
        have hn0 : ¬ x < 0 := by omega
        have hn1 : ¬ (65535 : Int) < x := by omega
        obtain ⟨u, hu⟩ : ∃ u, wr.cell? ⟨w.heap.size + 1, k, none⟩ = some u := by
          rw [g0.cell k]
          exact ⟨_, List.getElem?_eq_getElem (by simp [hl]; omega)⟩
        have hfz := g0.frozen k
        have hts := take_app xs k (by omega)
        have g0' := g0.set k (.int .i64 x)
        rw [set_app hfl (show k < Z16.length from hlt), hx, ← hts, ← hx] at g0'
        have g1' := g1.other ⟨w.heap.size + 1, k, none⟩ (.int .i64 x) (by simp)
        have gB' := gB.setCell (p := ⟨w.heap.size + 1, k, none⟩) (by simp) (.int .i64 x)
        have hin' : ∀ j, j < k + 1 → 0 ≤ xs.getD j 0 ∧ xs.getD j 0 < 65536 := by
          intro j hj
          by_cases e : j = k
          · subst e; rw [← hx]; exact ⟨hx0, hx1⟩
          · exact hin j (by omega)
        have H0 : Hid _ := g0'
        have H1 : Hid _ := g1'
        have HB : Hid _ := gB'
        have HI : Hid _ := hin'
        clear g0' g1' gB' hin' g0 g1 gB hin hx hts hcell hr
        go_wp2
        go_roundw
        case rel => exact ⟨k + 1, by omega, by go_num, HI.out, H0.out, H1.out, HB.out⟩
        case measure => simp [intOf]; omega
      · have hf : r = false := by rw [HRR.out]; exact lmOk_no (k := k) (by rw [← hx]; exact hgood)
        have HE : Hid (L = Z16) := by unfold Hid; rw [HLr.out, hf]; rfl
        have h2 := g1.row (I64 Z16)
        have HB := setRow_below gB w.heap.size (I64 Z16).toArray (Nat.le_refl _)
        clear hin hx hcell hr g0
        by_cases hx0 : x < 0
        · go_wp2_with (refine wpList_store_row rfl 81 _ _ rfl w.heap.size (I64 Z16).toArray rfl rfl 81 _ g1 infoL rfl (by simp [Value.oneCell']) ?_)
          exact bodyPost_ret (results_row_tmp (v := .bool false) (cs := I64 Z16) rfl rfl rfl h2 Tryd.underlying81 rfl infoL) rfl ⟨by first | rw [hf, HE.out] | rw [HE.out], HB⟩
        · have hx1 : (65535 : Int) < x := by omega
          go_wp2_with (refine wpList_store_row rfl 81 _ _ rfl w.heap.size (I64 Z16).toArray rfl rfl 81 _ g1 infoL rfl (by simp [Value.oneCell']) ?_)
          exact bodyPost_ret (results_row_tmp (v := .bool false) (cs := I64 Z16) rfl rfl rfl h2 Tryd.underlying81 rfl infoL) rfl ⟨by first | rw [hf, HE.out] | rw [HE.out], HB⟩
    · obtain rfl : k = 16 := by omega
      rw [List.take_of_length_le (by omega), show Z16.drop 16 = [] from rfl, List.append_nil] at g0
      have hf : r = true := by rw [HRR.out]; exact (lmOk_iff xs).2 ⟨hl, lm_of hl hin⟩
      have hE : L = xs := by rw [HLr.out, hf]; rfl
      have hix : (Tryd.prog.info? 81).map (·.size) = some (I64 xs).toArray.size := by simpa [hl] using infoL
      have h2 := g1.row (I64 xs)
      have HB := setRow_below gB w.heap.size (I64 xs).toArray (Nat.le_refl _)
      have HE : Hid _ := hE
      clear hin hcell hr hfl hE
      go_wp2_with (first
        | (refine wpList_load_row rfl 81 _ rfl (w.heap.size + 1) rfl 81 (I64 xs).toArray (0, 0) _ g0 Tryd.underlying81 rfl hix ?_)
        | (refine wpList_store_row rfl 81 _ _ rfl w.heap.size (I64 xs).toArray rfl rfl 81 _ g1 hix (by simp [hl]) (by simp [Value.oneCell']) ?_))
      exact bodyPost_ret (results_row_tmp (v := .bool true) (cs := I64 xs) rfl rfl rfl h2 Tryd.underlying81 rfl (by simpa [hl] using infoL)) rfl ⟨by first | rw [hf, HE.out] | rw [HE.out], HB⟩
end Go.Proofs.YtihoaakbkffejaaDoor
namespace Go.Proofs.YtihoaakbkffejaaDoor
open Go.RowKit
set_option maxRecDepth 100000

end Go.Proofs.YtihoaakbkffejaaDoor
namespace Go.Proofs.YtihoaakbkffejaaDoor
open Go.RowKit
set_option maxRecDepth 100000

set_option maxHeartbeats 1000000 in
theorem implList (l : List Int) (w : World) (hl : l.length = 16) :
    Calls Tryd.prog 47 #[.agg (I64 l).toArray] w fun e w' => ∃ a c, e = .returned (.slice a 16 c) ∧ w'.ownsRow w.heap.size 81 1 (.slice a 16 c) 16 (I64 l) ∧ Below w.heap.size w w' := by
  obtain ⟨W, hW⟩ : ∃ W, W = w.alloc (.cells (I64 l).toArray 81) := ⟨_, rfl⟩
  have g0 : Arr W w.heap.size 81 (I64 l) := by rw [hW]; exact Arr.new _ _ _
  have gB : Below w.heap.size w W := by rw [hW]; exact (Below.refl _ _).alloc (Nat.le_refl _) _
  obtain ⟨A, hA⟩ : ∃ A, A = (I64 l).toArray := ⟨_, rfl⟩
  rw [← hA] at hW ⊢
  have HA : Hid _ := hW ▸ g0
  have HB : Hid _ := hW ▸ gB
  clear hW g0 gB hA
  go_enter Tryd.func47, Tryd.ntmps47
  go_wp2
  go_ret
  refine ⟨some ⟨w.heap.size, 0, none⟩, 16, rfl, ⟨by simp [hl], .inr ⟨w.heap.size, 16, _, rfl, Nat.le_refl _, HA.out, Nat.le_refl _, by unfold maxLen; omega, by simp [hl], by rw [List.take_of_length_le (by simp [hl])]⟩⟩, HB.out⟩

end Go.Proofs.YtihoaakbkffejaaDoor

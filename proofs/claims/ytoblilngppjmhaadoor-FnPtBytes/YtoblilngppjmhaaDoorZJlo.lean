/-
  What is proved here: the contract of the program's limbsOf: whether a slice of ints is sixteen limbs; contracts of the program's limbsOf, fieldOpen and FeOk: whether a slice of ints is a number of the field; where the program's variable holds the prime.
-/
import Derived.Test.YtoblilngppjmhaaDoorZJa
import Derived.Test.YtoblilngppjmhaaDoorZUa
import Derived.Test.YtoblilngppjmhaaDoorZFn
import Derived.Test.YtoblilngppjmhaaDoorZJf
import Derived.Test.YtoblilngppjmhaaDoorZJhi
namespace Go.Proofs.YtoblilngppjmhaaDoor
open Go.RowKit
set_option maxRecDepth 100000

/-- Whether a slice is sixteen limbs; the limbs, or none. -/
def lmOk (l : List Int) : Bool := decide (l.length = 16) && l.all (fun x => decide (0 ≤ x ∧ x < 65536))
def lmL (l : List Int) : List Int := if lmOk l = true then l else Z16
theorem lmOk_iff (l : List Int) : lmOk l = true ↔ l.length = 16 ∧ Lm l := by
  unfold lmOk Lm
  simp only [Bool.and_eq_true, decide_eq_true_eq, List.all_eq_true]
theorem lmL_len (l : List Int) : (lmL l).length = 16 := by
  unfold lmL
  split
  · rename_i h; exact ((lmOk_iff l).1 h).1
  · rfl
theorem lmOk_no {xs : List Int} {k : Nat} (h : ¬ (0 ≤ xs.getD k 0 ∧ xs.getD k 0 < 65536)) : lmOk xs = false := by
  cases e : lmOk xs with
  | false => rfl
  | true => exact absurd (gD_lm ((lmOk_iff xs).1 e).2 k) h

set_option maxHeartbeats 2000000 in
theorem implLimbsOf (a : Option Addr) (n c : Nat) (xs : List Int) (w : World) (hx : Is w a n c xs) :
    Calls Tryd.prog 67 #[.slice a n c] w fun e w' => e = .returned (.tuple #[.agg (I64 (lmL xs)).toArray, .bool (lmOk xs)]) ∧ Below w.heap.size w w' := by
  obtain ⟨_, hl, hc, hr, hx⟩ := hx
  obtain ⟨L, hL⟩ : ∃ L, L = lmL xs := ⟨_, rfl⟩
  obtain ⟨r, hrr⟩ : ∃ r, r = lmOk xs := ⟨_, rfl⟩
  have HLr : Hid (L = if r = true then xs else Z16) := by unfold Hid; rw [hL, hrr]; rfl
  have HRR : Hid _ := hrr
  rw [← hL, ← hrr]
  clear hL hrr
  obtain ⟨W, hW⟩ : ∃ W, W = (w.alloc (.cells #[.int .i64 0, .int .i64 0, .int .i64 0, .int .i64 0, .int .i64 0, .int .i64 0, .int .i64 0, .int .i64 0, .int .i64 0, .int .i64 0, .int .i64 0, .int .i64 0, .int .i64 0, .int .i64 0, .int .i64 0, .int .i64 0] 70)).alloc (.cells #[.int .i64 0, .int .i64 0, .int .i64 0, .int .i64 0, .int .i64 0, .int .i64 0, .int .i64 0, .int .i64 0, .int .i64 0, .int .i64 0, .int .i64 0, .int .i64 0, .int .i64 0, .int .i64 0, .int .i64 0, .int .i64 0] 70) := ⟨_, rfl⟩
  have g1 : Arr W w.heap.size 70 (I64 Z16) := by rw [hW]; exact (Arr.new w (I64 Z16) _).alloc _
  have g0 : Arr W (w.heap.size + 1) 70 (I64 (xs.take 0 ++ Z16.drop 0)) := by
    rw [hW]
    have := Arr.new (w.alloc (.cells (I64 Z16).toArray 70)) (I64 Z16) 70
    rw [World.size_alloc] at this
    exact this
  have gB : Below w.heap.size w W := by rw [hW]; exact ((Below.refl _ _).alloc (Nat.le_refl _) _).alloc (by simp) _
  by_cases hn : n = 16
  rotate_left
  · have hf : r = false := by rw [HRR.out]; unfold lmOk; simp [show ¬ xs.length = 16 by omega]
    have HE : Hid (L = Z16) := by unfold Hid; rw [HLr.out, hf]; rfl
    have hn' : ((n : Int) != 16) = true := by simp; omega
    have hn'' : ¬ ((n : Int) = 16) := by omega
    have g0' : Arr ((w.alloc (.cells #[.int .i64 0, .int .i64 0, .int .i64 0, .int .i64 0, .int .i64 0, .int .i64 0, .int .i64 0, .int .i64 0, .int .i64 0, .int .i64 0, .int .i64 0, .int .i64 0, .int .i64 0, .int .i64 0, .int .i64 0, .int .i64 0] 70)).alloc (.cells #[.int .i64 0, .int .i64 0, .int .i64 0, .int .i64 0, .int .i64 0, .int .i64 0, .int .i64 0, .int .i64 0, .int .i64 0, .int .i64 0, .int .i64 0, .int .i64 0, .int .i64 0, .int .i64 0, .int .i64 0, .int .i64 0] 70)) (w.heap.size + 1) 70 (I64 Z16) := hW ▸ g0
    have g1' := hW ▸ g1
    have h2 := g1'.row (I64 Z16)
    have HB := setRow_below (hW ▸ gB) w.heap.size (I64 Z16).toArray (Nat.le_refl _)
    clear hx hr HRR HLr g0 g1 gB hW
    go_enter Tryd.func67, Tryd.ntmps67
    go_wp2_with (first
      | (refine wpList_load_row rfl 70 _ rfl (w.heap.size + 1) rfl 70 (I64 Z16).toArray (0, 0) _ g0' Tryd.underlying70 rfl infoL ?_)
      | (refine wpList_store_row rfl 70 _ _ rfl w.heap.size (I64 Z16).toArray rfl rfl 70 _ g1' infoL rfl (by simp [Value.oneCell']) ?_))
    exact bodyPost_ret (results_row_tmp (v := .bool false) (cs := I64 Z16) rfl rfl rfl h2 Tryd.underlying70 rfl infoL) rfl ⟨by first | rw [hf, HE.out] | rw [HE.out], HB⟩
  subst hn
  rcases hx with hx | ⟨b, o, rfl, hbs, hcell⟩
  · omega
  go_enter Tryd.func67, Tryd.ntmps67
  go_wp2
  rw [← hW]
  clear hW
  go_loopw [13] (fun i wr => ∃ k : Nat, k ≤ 16 ∧ i = .int .i64 k ∧ (∀ j, j < k → 0 ≤ xs.getD j 0 ∧ xs.getD j 0 < 65536) ∧ Arr wr (w.heap.size + 1) 70 (I64 (xs.take k ++ Z16.drop k)) ∧ Arr wr w.heap.size 70 (I64 Z16) ∧ Below w.heap.size w wr) (fun i _ => 16 - (intOf i).toNat)
  case atStart => exact ⟨0, by omega, rfl, fun j hj => by omega, g0, g1, gB⟩
  case round =>
    clear g0 g1 gB
    obtain ⟨k, hk, rfl, hin, g0, g1, gB⟩ := hrel
    have hfl : (xs.take k).length = k := by simp; omega
    by_cases hlt : k < 16
    · obtain ⟨x, hx⟩ : ∃ x, x = xs.getD k 0 := ⟨_, rfl⟩
      have hck : wr.cell? ⟨b, o + k, none⟩ = some (.int .i64 x) := by rw [hx]; exact (gB.cell (p := ⟨b, o + k, none⟩) hbs).trans (hcell k hlt)
      have hk16 : (k : Int) < 16 := by omega
      have hk0 : (0 : Int) ≤ (k : Int) := by omega
      by_cases hgood : 0 ≤ x ∧ x < 65536
      · obtain ⟨hx0, hx1⟩ := hgood
        have hn0 : ¬ x < 0 := by omega
        have hn1 : ¬ (65535 : Int) < x := by omega
        obtain ⟨u, hu⟩ : ∃ u, wr.cell? ⟨w.heap.size + 1, k, none⟩ = some u := by
          rw [g0.cell k]
          exact ⟨_, List.getElem?_eq_getElem (by simp [hl]; omega)⟩
        have hfz := g0.frozen k
        have hts := take_app xs k (by omega)
        have g0' := g0.set k (.int .i64 x)
        rw [set_app hfl (show k < Z16.length from hlt), hx, ← hts, ← hx] at g0'
        have g1' := g1.other ⟨w.heap.size + 1, k, none⟩ (.int .i64 x) (by simp)
        have gB' := gB.setCell (p := ⟨w.heap.size + 1, k, none⟩) (by simp) (.int .i64 x)
        have hin' : ∀ j, j < k + 1 → 0 ≤ xs.getD j 0 ∧ xs.getD j 0 < 65536 := by
          intro j hj
          by_cases e : j = k
          · subst e; rw [← hx]; exact ⟨hx0, hx1⟩
          · exact hin j (by omega)
        have H0 : Hid _ := g0'
        have H1 : Hid _ := g1'
        have HB : Hid _ := gB'
        have HI : Hid _ := hin'
        clear g0' g1' gB' hin' g0 g1 gB hin hx hts hcell hr
        go_wp2
        go_roundw
        case rel => exact ⟨k + 1, by omega, by go_num, HI.out, H0.out, H1.out, HB.out⟩
        case measure => simp [intOf]; omega
      · have hf : r = false := by rw [HRR.out]; exact lmOk_no (k := k) (by rw [← hx]; exact hgood)
        have HE : Hid (L = Z16) := by unfold Hid; rw [HLr.out, hf]; rfl
        have h2 := g1.row (I64 Z16)
        have HB := setRow_below gB w.heap.size (I64 Z16).toArray (Nat.le_refl _)
        clear hin hx hcell hr g0
        by_cases hx0 : x < 0
        · go_wp2_with (refine wpList_store_row rfl 70 _ _ rfl w.heap.size (I64 Z16).toArray rfl rfl 70 _ g1 infoL rfl (by simp [Value.oneCell']) ?_)
          exact bodyPost_ret (results_row_tmp (v := .bool false) (cs := I64 Z16) rfl rfl rfl h2 Tryd.underlying70 rfl infoL) rfl ⟨by first | rw [hf, HE.out] | rw [HE.out], HB⟩
        · have hx1 : (65535 : Int) < x := by omega
          go_wp2_with (refine wpList_store_row rfl 70 _ _ rfl w.heap.size (I64 Z16).toArray rfl rfl 70 _ g1 infoL rfl (by simp [Value.oneCell']) ?_)
          exact bodyPost_ret (results_row_tmp (v := .bool false) (cs := I64 Z16) rfl rfl rfl h2 Tryd.underlying70 rfl infoL) rfl ⟨by first | rw [hf, HE.out] | rw [HE.out], HB⟩
    · obtain rfl : k = 16 := by omega
      rw [List.take_of_length_le (by omega), show Z16.drop 16 = [] from rfl, List.append_nil] at g0
      have hf : r = true := by rw [HRR.out]; exact (lmOk_iff xs).2 ⟨hl, lm_of hl hin⟩
      have hE : L = xs := by rw [HLr.out, hf]; rfl
      have hix : (Tryd.prog.info? 70).map (·.size) = some (I64 xs).toArray.size := by simpa [hl] using infoL
      have h2 := g1.row (I64 xs)
      have HB := setRow_below gB w.heap.size (I64 xs).toArray (Nat.le_refl _)
      have HE : Hid _ := hE
      clear hin hcell hr hfl hE
      go_wp2_with (first
        | (refine wpList_load_row rfl 70 _ rfl (w.heap.size + 1) rfl 70 (I64 xs).toArray (0, 0) _ g0 Tryd.underlying70 rfl hix ?_)
        | (refine wpList_store_row rfl 70 _ _ rfl w.heap.size (I64 xs).toArray rfl rfl 70 _ g1 hix (by simp [hl]) (by simp [Value.oneCell']) ?_))
      exact bodyPost_ret (results_row_tmp (v := .bool true) (cs := I64 xs) rfl rfl rfl h2 Tryd.underlying70 rfl (by simpa [hl] using infoL)) rfl ⟨by first | rw [hf, HE.out] | rw [HE.out], HB⟩
end Go.Proofs.YtoblilngppjmhaaDoor
namespace Go.Proofs.YtoblilngppjmhaaDoor
open Go.RowKit
set_option maxRecDepth 100000
abbrev qJio0 : Oper := { dst := some 15, op := Op.load 70 (Operand.tmp 4), type := 70, pos := "l04_field.go:96", after := #[{ on := 2, ground := Ground.guard }], guard := some (2, true) }
abbrev qJio1 : Oper := { dst := some 16, op := Op.load 70 (Operand.global 4), type := 70, pos := "l04_field.go:96", after := #[{ on := 2, ground := Ground.guard }], guard := some (2, true) }
abbrev qJio2 : Oper := { dst := some 18, op := Op.pick (Operand.tmp 14) (Operand.tmp 17) (Operand.const (Value.bool false)), type := 4, pos := "l04_field.go:96", after := #[{ on := 2, ground := Ground.data }, { on := 5, ground := Ground.data }, { on := 7, ground := Ground.gcOnly Departure.lateStores }], guard := none }
abbrev qJio3 : Oper := { dst := none, op := Op.store 70 (Operand.tmp 2) (Operand.tmp 12), type := 0, pos := "l04_field.go:96", after := #[{ on := 0, ground := Ground.data }, { on := 5, ground := Ground.chain }, { on := 0, ground := Ground.phase }, { on := 1, ground := Ground.textOnly Departure.lateStores }, { on := 2, ground := Ground.textOnly Departure.lateStores }, { on := 3, ground := Ground.textOnly Departure.lateStores }, { on := 4, ground := Ground.textOnly Departure.lateStores }, { on := 5, ground := Ground.textOnly Departure.lateStoresUnsure }, { on := 6, ground := Ground.textOnly Departure.lateStores }], guard := none }

theorem feOk_lm (l : List Int) : feOk l = (lmOk l && decide (val l < P25519)) := rfl
theorem lmL_of {l : List Int} (h : feOk l = true) : lmL l = l := by
  have : lmOk l = true := by rw [feOk_lm] at h; simp only [Bool.and_eq_true] at h; exact h.1
  unfold lmL
  rw [if_pos this]
/-- The cells of fieldOpen: the result's, the limbs', and the program's prime. -/
structure OP (w W : World) (E : Nat) (l : List Int) : Prop where
  fr : Below w.heap.size w W
  pr : Arr W (w.heap.size + 1) 70 (I64 Z16)
  p4 : Arr W E 70 (I64 l)
  vr : Vr W 4 (I64 PL)
  g0 : 4 < w.heap.size
theorem OP.go {w A B : World} {E : Nat} {l : List Int} (h : OP w A E l) (hb : Below A.heap.size A B) : OP w B E l := ⟨h.fr.trans (hb.mono h.fr.size), h.pr.kept hb, h.p4.kept hb, h.vr.kept hb, h.g0⟩
theorem OP.all {w W : World} {E : Nat} {l : List Int} (h : OP w W E l) : W.rangeAt E 0 (I64 l) ∧ W.rangeAt 4 0 (I64 PL) := ⟨arr_range h.p4, vr_range h.vr⟩
theorem OP.put {w W : World} {E : Nat} {l : List Int} (h : OP w W E l) (hl : l.length = 16) (hE : E ≠ w.heap.size + 1) : Arr (W.setCells (w.heap.size + 1) 0 (I64 l)) (w.heap.size + 1) 70 (I64 l) ∧ Below w.heap.size w (W.setCells (w.heap.size + 1) 0 (I64 l)) ∧
    ((W.setCells (w.heap.size + 1) 0 (I64 l)).rangeAt E 0 (I64 l) ∧ (W.setCells (w.heap.size + 1) 0 (I64 l)).rangeAt 4 0 (I64 PL)) ∧ W.there (w.heap.size + 1) 0 (I64 l).toArray.size := by
  have h0 : 4 ≠ w.heap.size + 1 := by have := h.g0; omega
  exact ⟨Arr.setCells0 h.pr (by simp [hl]), setCells_below (by omega) _ _ h.fr, ⟨arr_range (Arr.setCellsO hE _ _ h.p4), vr_range (Vr.setCellsO h0 h.vr)⟩, by have := arr_there h.pr; simpa [hl] using this⟩

set_option maxHeartbeats 2000000 in
theorem implOpen (a : Option Addr) (n c : Nat) (xs : List Int) (w : World) (hx : Is w a n c xs) (hV : Vr w 4 (I64 PL)) :
    Calls Tryd.prog 101 #[.agg #[.slice a n c]] w fun e w' => e = .returned (.tuple #[.agg (I64 (lmL xs)).toArray, .bool (feOk xs)]) ∧ Below w.heap.size w w' := by
  obtain ⟨W, hW⟩ : ∃ W, W = (w.alloc (.cells #[.slice a n c] 25)).alloc (.cells #[.int .i64 0, .int .i64 0, .int .i64 0, .int .i64 0, .int .i64 0, .int .i64 0, .int .i64 0, .int .i64 0, .int .i64 0, .int .i64 0, .int .i64 0, .int .i64 0, .int .i64 0, .int .i64 0, .int .i64 0, .int .i64 0] 70) := ⟨_, rfl⟩
  have g1 : Arr W (w.heap.size + 1) 70 (I64 Z16) := by
    rw [hW]
    have := Arr.new (w.alloc (.cells #[.slice a n c] 25)) (I64 Z16) 70
    rw [World.size_alloc] at this
    exact this
  have gB : Below w.heap.size w W := by rw [hW]; exact ((Below.refl _ _).alloc (Nat.le_refl _) _).alloc (by simp) _
  have HLO := implLimbsOf a n c xs W (hx.below gB)
  have gV := hV.kept gB
  have hLl := lmL_len xs
  obtain ⟨q, hq⟩ : ∃ q, q = decide (val (lmL xs) < P25519) := ⟨_, rfl⟩
  have HQ : Hid (lmOk xs = true → ∀ Z, Calls Tryd.prog 118 #[.agg (I64 (lmL xs)).toArray, .agg (I64 PL).toArray] Z fun e w' => e = .returned (.bool q) ∧ Below Z.heap.size Z w') := by
    unfold Hid; intro h Z
    have e : lmL xs = xs := by unfold lmL; rw [if_pos h]
    have h2 := (lmOk_iff xs).1 h
    have := implBelow (lmL xs) PL Z hLl PL_len (by rw [e]; exact h2.2) PL_lm
    rw [PL_val, ← hq] at this
    exact this
  have HR1 : Hid (lmOk xs = true → feOk xs = q) := by
    unfold Hid; intro h
    have e : lmL xs = xs := by unfold lmL; rw [if_pos h]
    rw [hq, e, feOk_lm, h]; rfl
  have HR0 : Hid (lmOk xs = false → feOk xs = false) := by unfold Hid; intro h; rw [feOk_lm, h]; rfl
  obtain ⟨L, hL⟩ : ∃ L, L = lmL xs := ⟨_, rfl⟩
  obtain ⟨ok, hok⟩ : ∃ ok, ok = lmOk xs := ⟨_, rfl⟩
  obtain ⟨r, hr⟩ : ∃ r, r = feOk xs := ⟨_, rfl⟩
  rw [← hL] at HLO hLl HQ ⊢
  rw [← hok] at HLO HQ HR1 HR0
  rw [← hr] at HR1 HR0 ⊢
  have HLO' : Hid (Calls Tryd.prog 67 #[.slice a n c] W fun e w' => e = .returned (.tuple #[.agg (I64 L).toArray, .bool ok]) ∧ Below W.heap.size W w') := HLO
  clear HLO hL hok hr hq
  have hil : (Tryd.prog.info? 70).map (·.size) = some (I64 L).toArray.size := by simpa [hLl] using infoL
  have hill : (Tryd.prog.info? 70).map (·.size) = some (I64 L).length := by simpa [hLl] using infoL
  have hip : (Tryd.prog.info? 70).map (·.size) = some (I64 PL).length := infoL
  have hu : Tryd.prog.underlying 70 = some (.array 16 3) := Tryd.underlying70
  have hone := one_lm L
  go_enter Tryd.func101, Tryd.ntmps101
  go_wp2_with fail
  rw [← hW]
  refine HLO'.out.mono ?_
  rintro e w1 ⟨rfl, hb1⟩
  have g2 := g1.kept hb1
  have gB2 := gB.trans (hb1.mono gB.size)
  have gV2 := gV.kept hb1
  clear hW g1 gB gV hb1 HLO'
  have hsz := g2.lt
  obtain ⟨V, hVV⟩ : ∃ V, V = (w1.alloc (.cells #[.int .i64 0, .int .i64 0, .int .i64 0, .int .i64 0, .int .i64 0, .int .i64 0, .int .i64 0, .int .i64 0, .int .i64 0, .int .i64 0, .int .i64 0, .int .i64 0, .int .i64 0, .int .i64 0, .int .i64 0, .int .i64 0] 70)).setRow w1.heap.size (I64 L).toArray := ⟨_, rfl⟩
  have p4z : Arr (w1.alloc (.cells #[.int .i64 0, .int .i64 0, .int .i64 0, .int .i64 0, .int .i64 0, .int .i64 0, .int .i64 0, .int .i64 0, .int .i64 0, .int .i64 0, .int .i64 0, .int .i64 0, .int .i64 0, .int .i64 0, .int .i64 0, .int .i64 0] 70)) w1.heap.size 70 (I64 Z16) := Arr.new w1 (I64 Z16) _
  have bA : Below w1.heap.size w1 (w1.alloc (.cells #[.int .i64 0, .int .i64 0, .int .i64 0, .int .i64 0, .int .i64 0, .int .i64 0, .int .i64 0, .int .i64 0, .int .i64 0, .int .i64 0, .int .i64 0, .int .i64 0, .int .i64 0, .int .i64 0, .int .i64 0, .int .i64 0] 70)) := (Below.refl _ _).alloc (Nat.le_refl _) _
  have EE : OP w V.drew w1.heap.size L := by
    have h0 := hV.lt
    have : OP w V w1.heap.size L := by
      rw [hVV]
      exact ⟨setRow_below (gB2.trans (bA.mono gB2.size)) _ _ gB2.size, (g2.kept bA).rowOther _ _ (by omega), p4z.row _, (gV2.kept bA).rowOther _ (by omega), h0⟩
    exact this.go (Below.refl _ _).drew
  obtain ⟨E, hE⟩ : ∃ E, E = w1.heap.size := ⟨_, rfl⟩
  have HV : Hid _ := hVV
  have HE : Hid _ := hE
  clear hVV g2 gB2 gV2 bA hE
  go_wp2_with (refine wpList_store_row rfl 70 _ _ rfl w1.heap.size (I64 L).toArray rfl rfl 70 _ p4z hil (by simp [hLl]) (by simp [Value.oneCell']) ?_)
  rw [← HV.out]
  rw [← HE.out] at EE hsz ⊢
  clear HV HE p4z
  refine wp_region_held_drew (S := fun W => W.rangeAt E 0 (I64 L) ∧ W.rangeAt 4 0 (I64 PL)) (by kernel_rfl) EE.all (fun hHeld => ?_)
  refine wpAnyH_take (i := 0) (oi := { dst := some 12, op := Op.load 70 (Operand.tmp 4), type := 70, pos := "l04_field.go:96", after := #[], guard := none }) (v := _) rfl (by kernel_rfl) (by kernel_rfl) (by kernel_rfl) (fun _ _ _ h => h) (yieldsIf_load_mid (by rfl) _ _ rfl _ _ rfl (I64 L) _ (fun _ h => h.1) hu rfl hill) (by assumption) ?_
  simp only [Act.put, List.setIfInBounds_toArray, List.set_cons_zero, List.set_cons_succ]
  refine wpAnyH_take (i := 1) (oi := { dst := some 13, op := Op.move (Operand.tmp 5), type := 4, pos := "l04_field.go:96", after := #[], guard := none }) (v := .bool ok) rfl (by kernel_rfl) (by kernel_rfl) (by kernel_rfl) (fun _ _ _ h => h) (.inl ⟨by rfl, fun _ _ => by rfl⟩) (by assumption) ?_
  simp only [Act.put, List.setIfInBounds_toArray, List.set_cons_zero, List.set_cons_succ]
  refine wpAnyH_take (i := 2) (oi := { dst := some 14, op := Op.move (Operand.tmp 13), type := 4, pos := "l04_field.go:96", after := #[{ on := 1, ground := Ground.data }], guard := none }) (v := .bool ok) rfl (by kernel_rfl) (by kernel_rfl) (by kernel_rfl) (fun _ _ _ h => h) (.inl ⟨by rfl, fun _ _ => by rfl⟩) (by assumption) ?_
  simp only [Act.put, List.setIfInBounds_toArray, List.set_cons_zero, List.set_cons_succ]
  cases ok with
  | true =>
    have HBL : Hid _ := HQ.out rfl
    have hrq : r = q := HR1.out rfl
    clear HQ HR1 HR0
    refine wpAnyH_take (i := 3) (oi := qJio0) (v := _) rfl (by kernel_rfl) (by kernel_rfl) (by kernel_rfl) (fun _ _ _ h => h) (yieldsIf_load_mid (by rfl) _ _ rfl _ _ rfl (I64 L) _ (fun _ h => h.1) hu rfl hill) (by assumption) ?_
    simp only [Act.put, List.setIfInBounds_toArray, List.set_cons_zero, List.set_cons_succ]
    refine wpAnyH_take (i := 4) (oi := qJio1) (v := _) rfl (by kernel_rfl) (by kernel_rfl) (by kernel_rfl) (fun _ _ _ h => h) (yieldsIf_load_mid (by rfl) _ _ rfl _ _ rfl (I64 PL) _ (fun _ h => h.2) hu rfl hip) (by assumption) ?_
    simp only [Act.put, List.setIfInBounds_toArray, List.set_cons_zero, List.set_cons_succ]
    refine wpAnyH_ready (rs := [5]) (by kernel_rfl) (by simp) (AllReadyH.cons (o := { dst := some 17, op := Op.call { callee := Callee.value (Operand.func 118), args := #[Operand.tmp 15, Operand.tmp 16], argTypes := #[70, 70] }, type := 4, pos := "l04_field.go:96", after := #[{ on := 3, ground := Ground.data }, { on := 4, ground := Ground.data }, { on := 2, ground := Ground.chain }, { on := 2, ground := Ground.guard }], guard := some (2, true) }) rfl (fun K hK => ?_) AllReadyH.nil)
    go_simp
    refine (HBL.out _).mono ?_
    rintro e w2 ⟨rfl, hb2⟩
    replace EE := EE.go hb2
    go_wp2_with fail
    refine hK.out _ _ EE.all (fun hHeld => ?_)
    clear hK K hb2
    refine wpAnyH_take (i := 6) (oi := qJio2) (v := .bool q) rfl (by kernel_rfl) (by kernel_rfl) (by kernel_rfl) (fun _ _ _ h => h) (.inl ⟨by rfl, fun _ _ => by rfl⟩) (by assumption) ?_
    simp only [Act.put, List.setIfInBounds_toArray, List.set_cons_zero, List.set_cons_succ]
    obtain ⟨hA5, hB5, hS5, hth⟩ := EE.put hLl (by omega)
    refine wpAnyH_ready (rs := [7]) (by kernel_rfl) (by simp) (AllReadyH.cons (o := qJio3) rfl (fun K hK => ?_) AllReadyH.nil)
    rw [if_pos (by rfl)]
    refine wp_store_mid _ _ _ rfl _ _ (I64 L).toArray rfl rfl hth hil (all_oneCell_toArray hone) ?_
    simp only [Act.put]
    refine hK.out _ _ hS5 (fun hHeld => ?_)
    clear hK K
    refine wpAnyH_ready (rs := [8]) (by kernel_rfl) (by simp) (AllReadyH.cons (o := { dst := some 3, op := Op.assign (Operand.tmp 18), type := 4, pos := "l04_field.go:96", after := #[{ on := 6, ground := Ground.data }, { on := 7, ground := Ground.chain }, { on := 0, ground := Ground.phase }, { on := 1, ground := Ground.phase }, { on := 2, ground := Ground.phase }, { on := 3, ground := Ground.phase }, { on := 4, ground := Ground.phase }, { on := 5, ground := Ground.phase }, { on := 6, ground := Ground.phase }, { on := 7, ground := Ground.phase }], guard := none }) rfl (fun K hK => ?_) AllReadyH.nil)
    go_simp
    refine hK.out _ _ hS5 (fun hHeld => ?_)
    clear hK K
    refine wpAnyH_done (by kernel_rfl) ?_ _
    go_wp2
    exact bodyPost_ret (results_row_tmp (v := .bool q) (cs := I64 L) rfl rfl rfl hA5 Tryd.underlying70 rfl hill) rfl ⟨by rw [hrq], hB5⟩
  | false =>
    have hrf : r = false := HR0.out rfl
    clear HQ HR1 HR0
    refine wpAnyH_take (i := 3) (oi := qJio0) (v := undef) rfl (by kernel_rfl) (by kernel_rfl) (by kernel_rfl) (fun _ _ _ h => h) (.inr ⟨by rfl, rfl⟩) (by assumption) ?_
    simp only [Act.put, List.setIfInBounds_toArray, List.set_cons_zero, List.set_cons_succ]
    refine wpAnyH_take (i := 4) (oi := qJio1) (v := undef) rfl (by kernel_rfl) (by kernel_rfl) (by kernel_rfl) (fun _ _ _ h => h) (.inr ⟨by rfl, rfl⟩) (by assumption) ?_
    simp only [Act.put, List.setIfInBounds_toArray, List.set_cons_zero, List.set_cons_succ]
    refine wpAnyH_take (i := 5) (oi := { dst := some 17, op := Op.call { callee := Callee.value (Operand.func 118), args := #[Operand.tmp 15, Operand.tmp 16], argTypes := #[70, 70] }, type := 4, pos := "l04_field.go:96", after := #[{ on := 3, ground := Ground.data }, { on := 4, ground := Ground.data }, { on := 2, ground := Ground.chain }, { on := 2, ground := Ground.guard }], guard := some (2, true) }) (v := undef) rfl (by kernel_rfl) (by kernel_rfl) (by kernel_rfl) (fun _ _ _ h => h) (.inr ⟨by rfl, rfl⟩) (by assumption) ?_
    simp only [Act.put, List.setIfInBounds_toArray, List.set_cons_zero, List.set_cons_succ]
    refine wpAnyH_take (i := 6) (oi := qJio2) (v := .bool false) rfl (by kernel_rfl) (by kernel_rfl) (by kernel_rfl) (fun _ _ _ h => h) (.inl ⟨by rfl, fun _ _ => by rfl⟩) (by assumption) ?_
    simp only [Act.put, List.setIfInBounds_toArray, List.set_cons_zero, List.set_cons_succ]
    obtain ⟨hA5, hB5, hS5, hth⟩ := EE.put hLl (by omega)
    refine wpAnyH_ready (rs := [7]) (by kernel_rfl) (by simp) (AllReadyH.cons (o := qJio3) rfl (fun K hK => ?_) AllReadyH.nil)
    rw [if_pos (by rfl)]
    refine wp_store_mid _ _ _ rfl _ _ (I64 L).toArray rfl rfl hth hil (all_oneCell_toArray hone) ?_
    simp only [Act.put]
    refine hK.out _ _ hS5 (fun hHeld => ?_)
    clear hK K
    refine wpAnyH_ready (rs := [8]) (by kernel_rfl) (by simp) (AllReadyH.cons (o := { dst := some 3, op := Op.assign (Operand.tmp 18), type := 4, pos := "l04_field.go:96", after := #[{ on := 6, ground := Ground.data }, { on := 7, ground := Ground.chain }, { on := 0, ground := Ground.phase }, { on := 1, ground := Ground.phase }, { on := 2, ground := Ground.phase }, { on := 3, ground := Ground.phase }, { on := 4, ground := Ground.phase }, { on := 5, ground := Ground.phase }, { on := 6, ground := Ground.phase }, { on := 7, ground := Ground.phase }], guard := none }) rfl (fun K hK => ?_) AllReadyH.nil)
    go_simp
    refine hK.out _ _ hS5 (fun hHeld => ?_)
    clear hK K
    refine wpAnyH_done (by kernel_rfl) ?_ _
    go_wp2
    exact bodyPost_ret (results_row_tmp (v := .bool false) (cs := I64 L) rfl rfl rfl hA5 Tryd.underlying70 rfl hill) rfl ⟨by rw [hrf], hB5⟩

end Go.Proofs.YtoblilngppjmhaaDoor

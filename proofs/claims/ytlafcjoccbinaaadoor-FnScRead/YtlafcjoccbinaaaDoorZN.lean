/-
  What is proved here: the contract of the program's method times on limbs: the columns of a product; the contract of the program's limbsOf: whether a slice of ints is sixteen limbs.
-/
import Derived.Test.YtlafcjoccbinaaaDoorZM
import Derived.Test.YtlafcjoccbinaaaDoorZL
import Derived.Test.YtlafcjoccbinaaaDoorZE
namespace Go.Proofs.YtlafcjoccbinaaaDoor
open Go.RowKit
set_option maxRecDepth 100000

theorem infoC : (Tryd.prog.info? 84).map (·.size) = some 32 := by kernel_rfl
theorem mul_limb {x y : Int} (hx0 : 0 ≤ x) (hx1 : x < 65536) (hy0 : 0 ≤ y) (hy1 : y < 65536) : 0 ≤ x * y ∧ x * y ≤ 4294836225 := by
  refine ⟨Int.mul_nonneg hx0 hy0, ?_⟩
  have h1 : x * y ≤ 65535 * y := Int.mul_le_mul_of_nonneg_right (by omega) hy0
  omega

set_option maxHeartbeats 4000000 in
theorem implTimes (a b : List Int) (w : World) (ha : a.length = 16) (hb : b.length = 16) (la : Lm a) (lb : Lm b) :
    Calls Tryd.prog 72 #[.agg (I64 a).toArray, .agg (I64 b).toArray] w fun e w' => ∃ t, e = .returned (.agg (I64 t).toArray) ∧ Tq a b t 16 0 ∧ Below w.heap.size w w' := by
  obtain ⟨A, hA⟩ : ∃ A, A = (I64 a).toArray := ⟨_, rfl⟩
  obtain ⟨B, hB⟩ : ∃ B, B = (I64 b).toArray := ⟨_, rfl⟩
  rw [← hA, ← hB]
  obtain ⟨W, hW⟩ : ∃ W, W = (((w.alloc (.cells A 49)).alloc (.cells B 49)).alloc (.cells #[.int .i64 0, .int .i64 0, .int .i64 0, .int .i64 0, .int .i64 0, .int .i64 0, .int .i64 0, .int .i64 0, .int .i64 0, .int .i64 0, .int .i64 0, .int .i64 0, .int .i64 0, .int .i64 0, .int .i64 0, .int .i64 0, .int .i64 0, .int .i64 0, .int .i64 0, .int .i64 0, .int .i64 0, .int .i64 0, .int .i64 0, .int .i64 0, .int .i64 0, .int .i64 0, .int .i64 0, .int .i64 0, .int .i64 0, .int .i64 0, .int .i64 0, .int .i64 0] 84)).alloc (.cells #[.int .i64 0, .int .i64 0, .int .i64 0, .int .i64 0, .int .i64 0, .int .i64 0, .int .i64 0, .int .i64 0, .int .i64 0, .int .i64 0, .int .i64 0, .int .i64 0, .int .i64 0, .int .i64 0, .int .i64 0, .int .i64 0, .int .i64 0, .int .i64 0, .int .i64 0, .int .i64 0, .int .i64 0, .int .i64 0, .int .i64 0, .int .i64 0, .int .i64 0, .int .i64 0, .int .i64 0, .int .i64 0, .int .i64 0, .int .i64 0, .int .i64 0, .int .i64 0] 84) := ⟨_, rfl⟩
  have h0 : Arr W w.heap.size 49 (I64 a) := by rw [hW, hA]; exact (((Arr.new w (I64 a) _).alloc _).alloc _).alloc _
  have h1 : Arr W (w.heap.size + 1) 49 (I64 b) := by
    rw [hW, hB]
    have := ((Arr.new (w.alloc (.cells A 49)) (I64 b) 49).alloc (.cells (I64 Z32).toArray 84)).alloc (.cells (I64 Z32).toArray 84)
    rw [World.size_alloc] at this
    exact this
  have h2 : Arr W (w.heap.size + 2) 84 (I64 Z32) := by
    rw [hW]
    have := (Arr.new ((w.alloc (.cells A 49)).alloc (.cells B 49)) (I64 Z32) 84).alloc (.cells (I64 Z32).toArray 84)
    rw [World.size_alloc, World.size_alloc] at this
    exact this
  have h3 : Arr W (w.heap.size + 3) 84 (I64 Z32) := by
    rw [hW]
    have := Arr.new (((w.alloc (.cells A 49)).alloc (.cells B 49)).alloc (.cells (I64 Z32).toArray 84)) (I64 Z32) 84
    rw [World.size_alloc, World.size_alloc, World.size_alloc] at this
    exact this
  have hBl : Below w.heap.size w W := by rw [hW]; exact ((((Below.refl _ _).alloc (Nat.le_refl _) _).alloc (by simp) _).alloc (by simp; omega) _).alloc (by simp; omega) _
  have hia : (Tryd.prog.info? 49).map (·.size) = some (I64 a).toArray.size := by simpa [ha] using infoL
  have hib : (Tryd.prog.info? 49).map (·.size) = some (I64 b).toArray.size := by simpa [hb] using infoL
  have h0' := hW ▸ h0
  clear hA hB
  go_enter Tryd.func72, Tryd.ntmps72
  go_wp2_with (refine wpList_load_row rfl 49 _ rfl w.heap.size rfl 49 (I64 a).toArray (0, 0) _ h0' Tryd.underlying49 rfl hia ?_)
  rw [← hW]
  clear hW h0'
  go_loopw [11] (fun i wr => ∃ (k : Nat) (t : List Int), k ≤ 16 ∧ i = .int .i64 k ∧ Tq a b t k 0 ∧ Arr wr (w.heap.size + 1) 49 (I64 b) ∧ Arr wr (w.heap.size + 2) 84 (I64 Z32) ∧ Arr wr (w.heap.size + 3) 84 (I64 t) ∧ Below w.heap.size w wr) (fun i _ => 16 - (intOf i).toNat)
  case atStart => exact ⟨0, Z32, by omega, rfl, Tq.zero a b, h1, h2, h3, hBl⟩
  case round =>
    clear h0 h1 h2 h3 hBl
    obtain ⟨i, t, hi, rfl, TP, h1, h2, h3, hBl⟩ := hrel
    by_cases hi16 : i < 16
    · have hi' : (i : Int) < 16 := by omega
      have ix := fun w => index_arr Tryd.underlying49 Tryd.underlying3 infoL1 a ha i hi16 w
      obtain ⟨x, hx⟩ : ∃ x, x = a.getD i 0 := ⟨_, rfl⟩
      rw [← hx] at ix
      have bx := gD_lm la i
      rw [← hx] at bx
      have HX : Hid _ := hx
      clear hx
      go_wp2_with (refine wpList_load_row rfl 49 _ rfl (w.heap.size + 1) rfl 49 (I64 b).toArray (0, 0) _ h1 Tryd.underlying49 rfl hib ?_)
      clear ix
      go_loopw [16] (fun c wr => ∃ (k : Nat) (t : List Int), k ≤ 16 ∧ c = .int .i64 k ∧ Tq a b t i k ∧ Arr wr (w.heap.size + 1) 49 (I64 b) ∧ Arr wr (w.heap.size + 2) 84 (I64 Z32) ∧ Arr wr (w.heap.size + 3) 84 (I64 t) ∧ Below w.heap.size w wr) (fun c _ => 16 - (intOf c).toNat)
      case atStart => exact ⟨0, t, by omega, rfl, TP, h1, h2, h3, hBl⟩
      case round =>
        clear h1 h2 h3 hBl TP t
        obtain ⟨k, t, hk, rfl, TP, h1, h2, h3, hBl⟩ := hrel
        by_cases hk16 : k < 16
        · have iy := fun w => index_arr Tryd.underlying49 Tryd.underlying3 infoL1 b hb k hk16 w
          obtain ⟨y, hy⟩ : ∃ y, y = b.getD k 0 := ⟨_, rfl⟩
          rw [← hy] at iy
          obtain ⟨z, hz⟩ : ∃ z, z = t.getD (i + k) 0 := ⟨_, rfl⟩
          have by' := gD_lm lb k
          have bz := TP.get (i + k)
          rw [← hy] at by'
          rw [← hz] at bz
          have htl := TP.len
          have cz : wr.cell? ⟨w.heap.size + 3, i + k, none⟩ = some (.int .i64 z) := by rw [hz]; exact h3.i64 (i + k) (by omega)
          have hpb := mul_limb bx.1 bx.2 by'.1 by'.2
          have TP2 := TP.step hi16 (by omega) hk16 (p := x * y) (by rw [HX.out, hy]) hpb.1 hpb.2
          rw [← hz] at TP2
          obtain ⟨p, hp⟩ : ∃ p, p = x * y := ⟨_, rfl⟩
          rw [← hp] at TP2 hpb
          have s0 : IntKind.i64.wrap (x * y) = p := by rw [← hp, IntKind.wrap_i64]; omega
          have s1 : IntKind.i64.wrap (z + p) = z + p := by rw [IntKind.wrap_i64]; omega
          have s2 : IntKind.i64.wrap ((i : Int) + (k : Int)) = (i : Int) + (k : Int) := by rw [IntKind.wrap_i64]; omega
          have s3 : ((i : Int) + (k : Int)).toNat = i + k := by omega
          have s4 : (i : Int) + (k : Int) < 32 := by omega
          have s5 : (0 : Int) ≤ (i : Int) + (k : Int) := by omega
          have hk' : (k : Int) < 16 := by omega
          have hfz := h3.frozen (i + k)
          have e : (I64 t).set (i + k) (.int .i64 (z + p)) = I64 (t.set (i + k) (z + p)) := by simp
          have h3' := h3.set (i + k) (.int .i64 (z + p))
          rw [e] at h3'
          have h1' := h1.other ⟨w.heap.size + 3, i + k, none⟩ (.int .i64 (z + p)) (by simp)
          have h2' := h2.other ⟨w.heap.size + 3, i + k, none⟩ (.int .i64 (z + p)) (by simp)
          have hb' := hBl.setCell (p := ⟨w.heap.size + 3, i + k, none⟩) (by simp) (.int .i64 (z + p))
          have H1 : Hid _ := h1'
          have H2 : Hid _ := h2'
          have H3 : Hid _ := h3'
          have HB : Hid _ := hb'
          have HT : Hid _ := TP2
          clear h1' h2' h3' hb' e h1 h2 h3 hBl hy hz TP TP2 hp htl
          go_wp2
          go_roundw
          case rel => exact ⟨k + 1, _, by omega, by go_num, HT.out, H1.out, H2.out, H3.out, HB.out⟩
          case measure => simp [intOf]; omega
        · obtain rfl : k = 16 := by omega
          have TP2 := TP.row hb (by omega)
          clear TP
          go_wp2
          go_roundw
          case rel => exact ⟨i + 1, t, by omega, by go_num, TP2, h1, h2, h3, hBl⟩
          case measure => simp [intOf]; omega
    · obtain rfl : i = 16 := by omega
      have htl := TP.len
      have hit : (Tryd.prog.info? 84).map (·.size) = some (I64 t).toArray.size := by simpa [htl] using infoC
      have hr := h2.row (I64 t)
      have hbl := setRow_below hBl (w.heap.size + 2) (I64 t).toArray (by omega)
      have HT : Hid _ := TP
      clear TP
      go_wp2_with (first
        | (refine wpList_load_row rfl 84 _ rfl (w.heap.size + 3) rfl 84 (I64 t).toArray (0, 0) _ h3 Tryd.underlying84 rfl hit ?_)
        | (refine wpList_store_row rfl 84 _ _ rfl (w.heap.size + 2) (I64 t).toArray rfl rfl 84 _ h2 hit (by simp [htl]) (by simp [Value.oneCell']) ?_))
      exact bodyPost_ret (results_cell_row rfl _ _ (w.heap.size + 2) 84 (I64 t).toArray (0, 0) _ rfl hr Tryd.underlying84 rfl hit) rfl ⟨t, rfl, HT.out, hbl⟩
end Go.Proofs.YtlafcjoccbinaaaDoor
namespace Go.Proofs.YtlafcjoccbinaaaDoor
open Go.RowKit
set_option maxRecDepth 100000

/-- Whether a slice is sixteen limbs; the limbs, or none. -/
def lmOk (l : List Int) : Bool := decide (l.length = 16) && l.all (fun x => decide (0 ≤ x ∧ x < 65536))
def lmL (l : List Int) : List Int := if lmOk l = true then l else Z16
theorem lmOk_iff (l : List Int) : lmOk l = true ↔ l.length = 16 ∧ Lm l := by
  unfold lmOk Lm
  simp only [Bool.and_eq_true, decide_eq_true_eq, List.all_eq_true]
theorem lmL_len (l : List Int) : (lmL l).length = 16 := by
  unfold lmL
  split
  · rename_i h; exact ((lmOk_iff l).1 h).1
  · rfl
theorem lmOk_no {xs : List Int} {k : Nat} (h : ¬ (0 ≤ xs.getD k 0 ∧ xs.getD k 0 < 65536)) : lmOk xs = false := by
  cases e : lmOk xs with
  | false => rfl
  | true => exact absurd (gD_lm ((lmOk_iff xs).1 e).2 k) h

set_option maxHeartbeats 2000000 in
theorem implLimbsOf (a : Option Addr) (n c : Nat) (xs : List Int) (w : World) (hx : Is w a n c xs) :
    Calls Tryd.prog 46 #[.slice a n c] w fun e w' => e = .returned (.tuple #[.agg (I64 (lmL xs)).toArray, .bool (lmOk xs)]) ∧ Below w.heap.size w w' := by
  obtain ⟨_, hl, hc, hr, hx⟩ := hx
  obtain ⟨L, hL⟩ : ∃ L, L = lmL xs := ⟨_, rfl⟩
  obtain ⟨r, hrr⟩ : ∃ r, r = lmOk xs := ⟨_, rfl⟩
  have HLr : Hid (L = if r = true then xs else Z16) := by unfold Hid; rw [hL, hrr]; rfl
  have HRR : Hid _ := hrr
  rw [← hL, ← hrr]
  clear hL hrr
  obtain ⟨W, hW⟩ : ∃ W, W = (w.alloc (.cells #[.int .i64 0, .int .i64 0, .int .i64 0, .int .i64 0, .int .i64 0, .int .i64 0, .int .i64 0, .int .i64 0, .int .i64 0, .int .i64 0, .int .i64 0, .int .i64 0, .int .i64 0, .int .i64 0, .int .i64 0, .int .i64 0] 49)).alloc (.cells #[.int .i64 0, .int .i64 0, .int .i64 0, .int .i64 0, .int .i64 0, .int .i64 0, .int .i64 0, .int .i64 0, .int .i64 0, .int .i64 0, .int .i64 0, .int .i64 0, .int .i64 0, .int .i64 0, .int .i64 0, .int .i64 0] 49) := ⟨_, rfl⟩
  have g1 : Arr W w.heap.size 49 (I64 Z16) := by rw [hW]; exact (Arr.new w (I64 Z16) _).alloc _
  have g0 : Arr W (w.heap.size + 1) 49 (I64 (xs.take 0 ++ Z16.drop 0)) := by
    rw [hW]
    have := Arr.new (w.alloc (.cells (I64 Z16).toArray 49)) (I64 Z16) 49
    rw [World.size_alloc] at this
    exact this
  have gB : Below w.heap.size w W := by rw [hW]; exact ((Below.refl _ _).alloc (Nat.le_refl _) _).alloc (by simp) _
  by_cases hn : n = 16
  rotate_left
  · have hf : r = false := by rw [HRR.out]; unfold lmOk; simp [show ¬ xs.length = 16 by omega]
    have HE : Hid (L = Z16) := by unfold Hid; rw [HLr.out, hf]; rfl
    have hn' : ((n : Int) != 16) = true := by simp; omega
    have hn'' : ¬ ((n : Int) = 16) := by omega
    have g0' : Arr ((w.alloc (.cells #[.int .i64 0, .int .i64 0, .int .i64 0, .int .i64 0, .int .i64 0, .int .i64 0, .int .i64 0, .int .i64 0, .int .i64 0, .int .i64 0, .int .i64 0, .int .i64 0, .int .i64 0, .int .i64 0, .int .i64 0, .int .i64 0] 49)).alloc (.cells #[.int .i64 0, .int .i64 0, .int .i64 0, .int .i64 0, .int .i64 0, .int .i64 0, .int .i64 0, .int .i64 0, .int .i64 0, .int .i64 0, .int .i64 0, .int .i64 0, .int .i64 0, .int .i64 0, .int .i64 0, .int .i64 0] 49)) (w.heap.size + 1) 49 (I64 Z16) := hW ▸ g0
    have g1' := hW ▸ g1
    have h2 := g1'.row (I64 Z16)
    have HB := setRow_below (hW ▸ gB) w.heap.size (I64 Z16).toArray (Nat.le_refl _)
    clear hx hr HRR HLr g0 g1 gB hW
    go_enter Tryd.func46, Tryd.ntmps46
    go_wp2_with (first
      | (refine wpList_load_row rfl 49 _ rfl (w.heap.size + 1) rfl 49 (I64 Z16).toArray (0, 0) _ g0' Tryd.underlying49 rfl infoL ?_)
      | (refine wpList_store_row rfl 49 _ _ rfl w.heap.size (I64 Z16).toArray rfl rfl 49 _ g1' infoL rfl (by simp [Value.oneCell']) ?_))
    exact bodyPost_ret (results_row_tmp (v := .bool false) (cs := I64 Z16) rfl rfl rfl h2 Tryd.underlying49 rfl infoL) rfl ⟨by first | rw [hf, HE.out] | rw [HE.out], HB⟩
  subst hn
  rcases hx with hx | ⟨b, o, rfl, hbs, hcell⟩
  · omega
  go_enter Tryd.func46, Tryd.ntmps46
  go_wp2
  rw [← hW]
  clear hW
  go_loopw [13] (fun i wr => ∃ k : Nat, k ≤ 16 ∧ i = .int .i64 k ∧ (∀ j, j < k → 0 ≤ xs.getD j 0 ∧ xs.getD j 0 < 65536) ∧ Arr wr (w.heap.size + 1) 49 (I64 (xs.take k ++ Z16.drop k)) ∧ Arr wr w.heap.size 49 (I64 Z16) ∧ Below w.heap.size w wr) (fun i _ => 16 - (intOf i).toNat)
  case atStart => exact ⟨0, by omega, rfl, fun j hj => by omega, g0, g1, gB⟩
  case round =>
    clear g0 g1 gB
    obtain ⟨k, hk, rfl, hin, g0, g1, gB⟩ := hrel
    have hfl : (xs.take k).length = k := by simp; omega
    by_cases hlt : k < 16
    · obtain ⟨x, hx⟩ : ∃ x, x = xs.getD k 0 := ⟨_, rfl⟩
      have hck : wr.cell? ⟨b, o + k, none⟩ = some (.int .i64 x) := by rw [hx]; exact (gB.cell (p := ⟨b, o + k, none⟩) hbs).trans (hcell k hlt)
      have hk16 : (k : Int) < 16 := by omega
      have hk0 : (0 : Int) ≤ (k : Int) := by omega
      by_cases hgood : 0 ≤ x ∧ x < 65536
      · obtain ⟨hx0, hx1⟩ := hgood
        have hn0 : ¬ x < 0 := by omega
        have hn1 : ¬ (65535 : Int) < x := by omega
        obtain ⟨u, hu⟩ : ∃ u, wr.cell? ⟨w.heap.size + 1, k, none⟩ = some u := by
          rw [g0.cell k]
          exact ⟨_, List.getElem?_eq_getElem (by simp [hl]; omega)⟩
        have hfz := g0.frozen k
        have hts := take_app xs k (by omega)
        have g0' := g0.set k (.int .i64 x)
        rw [set_app hfl (show k < Z16.length from hlt), hx, ← hts, ← hx] at g0'
        have g1' := g1.other ⟨w.heap.size + 1, k, none⟩ (.int .i64 x) (by simp)
        have gB' := gB.setCell (p := ⟨w.heap.size + 1, k, none⟩) (by simp) (.int .i64 x)
        have hin' : ∀ j, j < k + 1 → 0 ≤ xs.getD j 0 ∧ xs.getD j 0 < 65536 := by
          intro j hj
          by_cases e : j = k
          · subst e; rw [← hx]; exact ⟨hx0, hx1⟩
          · exact hin j (by omega)
        have H0 : Hid _ := g0'
        have H1 : Hid _ := g1'
        have HB : Hid _ := gB'
        have HI : Hid _ := hin'
        clear g0' g1' gB' hin' g0 g1 gB hin hx hts hcell hr
        go_wp2
        go_roundw
        case rel => exact ⟨k + 1, by omega, by go_num, HI.out, H0.out, H1.out, HB.out⟩
        case measure => simp [intOf]; omega
      · have hf : r = false := by rw [HRR.out]; exact lmOk_no (k := k) (by rw [← hx]; exact hgood)
        have HE : Hid (L = Z16) := by unfold Hid; rw [HLr.out, hf]; rfl
        have h2 := g1.row (I64 Z16)
        have HB := setRow_below gB w.heap.size (I64 Z16).toArray (Nat.le_refl _)
        clear hin hx hcell hr g0
        by_cases hx0 : x < 0
        · go_wp2_with (refine wpList_store_row rfl 49 _ _ rfl w.heap.size (I64 Z16).toArray rfl rfl 49 _ g1 infoL rfl (by simp [Value.oneCell']) ?_)
          exact bodyPost_ret (results_row_tmp (v := .bool false) (cs := I64 Z16) rfl rfl rfl h2 Tryd.underlying49 rfl infoL) rfl ⟨by first | rw [hf, HE.out] | rw [HE.out], HB⟩
        · have hx1 : (65535 : Int) < x := by omega
          go_wp2_with (refine wpList_store_row rfl 49 _ _ rfl w.heap.size (I64 Z16).toArray rfl rfl 49 _ g1 infoL rfl (by simp [Value.oneCell']) ?_)
          exact bodyPost_ret (results_row_tmp (v := .bool false) (cs := I64 Z16) rfl rfl rfl h2 Tryd.underlying49 rfl infoL) rfl ⟨by first | rw [hf, HE.out] | rw [HE.out], HB⟩
    · obtain rfl : k = 16 := by omega
      rw [List.take_of_length_le (by omega), show Z16.drop 16 = [] from rfl, List.append_nil] at g0
      have hf : r = true := by rw [HRR.out]; exact (lmOk_iff xs).2 ⟨hl, lm_of hl hin⟩
      have hE : L = xs := by rw [HLr.out, hf]; rfl
      have hix : (Tryd.prog.info? 49).map (·.size) = some (I64 xs).toArray.size := by simpa [hl] using infoL
      have h2 := g1.row (I64 xs)
      have HB := setRow_below gB w.heap.size (I64 xs).toArray (Nat.le_refl _)
      have HE : Hid _ := hE
      clear hin hcell hr hfl hE
      go_wp2_with (first
        | (refine wpList_load_row rfl 49 _ rfl (w.heap.size + 1) rfl 49 (I64 xs).toArray (0, 0) _ g0 Tryd.underlying49 rfl hix ?_)
        | (refine wpList_store_row rfl 49 _ _ rfl w.heap.size (I64 xs).toArray rfl rfl 49 _ g1 hix (by simp [hl]) (by simp [Value.oneCell']) ?_))
      exact bodyPost_ret (results_row_tmp (v := .bool true) (cs := I64 xs) rfl rfl rfl h2 Tryd.underlying49 rfl (by simpa [hl] using infoL)) rfl ⟨by first | rw [hf, HE.out] | rw [HE.out], HB⟩
end Go.Proofs.YtlafcjoccbinaaaDoor

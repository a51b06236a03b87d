/-
  What is proved here: contracts of the program's methods plus, minus and lessOnce on limbs; contracts of the program's methods fieldSum and fieldDifference: the sum and the difference of two numbers of the field; where the program's variable holds the prime; the contract of the program's method times on limbs: the columns of a product.
-/
import Derived.Test.YtihoaakbkffejaaGreatDoorSJa
import Derived.Test.YtihoaakbkffejaaGreatDoorSFm
import Derived.Test.YtihoaakbkffejaaGreatDoorSFr
import Derived.Test.YtihoaakbkffejaaGreatDoorSYc
namespace Go.Proofs.YtihoaakbkffejaaGreatDoor
open Go.RowKit
set_option maxRecDepth 100000

theorem infoL1 : (Tryz.prog.info? 3).map (·.size) = some 1 := by kernel_rfl
theorem zip_bd {f : Int → Int → Int} (hf : ∀ x y, 0 ≤ x → x < 65536 → 0 ≤ y → y < 65536 → -4611686018427387904 ≤ f x y ∧ f x y < 4611686018427387904) {a b : List Int} (ha : Lm a) (hb : Lm b) : ∀ z ∈ List.zipWith f a b, -4611686018427387904 ≤ z ∧ z < 4611686018427387904 := by
  intro z hz
  obtain ⟨i, hi⟩ := List.mem_iff_getElem?.1 hz
  rw [List.getElem?_zipWith] at hi
  split at hi
  · rename_i p q h1 h2
    have h3 := ha _ (List.mem_of_getElem? h1)
    have h4 := hb _ (List.mem_of_getElem? h2)
    simp only [Option.some.injEq] at hi
    rw [← hi]
    exact hf p q h3.1 h3.2 h4.1 h4.2
  · cases hi
theorem zip_at (f : Int → Int → Int) {a b : List Int} (ha : a.length = 16) (hb : b.length = 16) (k : Nat) (hk : k < 16) : (List.zipWith f a b).getD k 0 = f (a.getD k 0) (b.getD k 0) := by
  simp [List.getD, List.getElem?_zipWith, show k < a.length by omega, show k < b.length by omega]

set_option maxHeartbeats 2000000 in
theorem implPlus (a b : List Int) (w : World) (ha : a.length = 16) (hb : b.length = 16) (la : Lm a) (lb : Lm b) :
    Calls Tryz.prog 125 #[.agg (I64 a).toArray, .agg (I64 b).toArray] w fun e w' => e = .returned (.agg (I64 (crd (List.zipWith (fun x y => x + y) a b))).toArray) ∧ Below w.heap.size w w' := by
  obtain ⟨A, hA⟩ : ∃ A, A = (I64 a).toArray := ⟨_, rfl⟩
  rw [← hA]
  obtain ⟨zs, hzs⟩ : ∃ zs, zs = List.zipWith (fun x y => x + y) a b := ⟨_, rfl⟩
  have hzl : zs.length = 16 := by rw [hzs]; simp [ha, hb]
  have hzc : Cb zs := by rw [hzs]; exact cb_of (zip_bd (fun x y _ _ _ _ => by omega) la lb)
  have hzx : ∀ k, k < 16 → zs.getD k 0 = a.getD k 0 + b.getD k 0 := by
    intro k hk
    rw [hzs]
    exact zip_at _ ha hb k hk
  rw [← hzs]
  have HZX : Hid _ := hzx
  have HZC : Hid (∀ Z, Calls Tryz.prog 133 #[.agg (I64 zs).toArray] Z fun e w' => e = .returned (.agg (I64 (crd zs)).toArray) ∧ Below Z.heap.size Z w') := by
    unfold Hid; intro Z; exact implCarried zs Z hzl hzc
  clear hzs hzx hzc
  obtain ⟨W, hW⟩ : ∃ W, W = ((w.alloc (.cells A 65)).alloc (.cells (I64 b).toArray 65)).alloc (.cells #[.int .i64 0, .int .i64 0, .int .i64 0, .int .i64 0, .int .i64 0, .int .i64 0, .int .i64 0, .int .i64 0, .int .i64 0, .int .i64 0, .int .i64 0, .int .i64 0, .int .i64 0, .int .i64 0, .int .i64 0, .int .i64 0] 65) := ⟨_, rfl⟩
  have h0 : Arr W w.heap.size 65 (I64 (zs.take 0 ++ a.drop 0)) := by rw [hW, hA]; exact ((Arr.new w (I64 a) _).alloc _).alloc _
  have h1 : Arr W (w.heap.size + 1) 65 (I64 b) := by
    rw [hW]
    have := (Arr.new (w.alloc (.cells A 65)) (I64 b) 65).alloc (.cells (I64 Z16).toArray 65)
    rw [World.size_alloc] at this
    exact this
  have h2 : Arr W (w.heap.size + 2) 65 (I64 Z16) := by
    rw [hW]
    have := Arr.new ((w.alloc (.cells A 65)).alloc (.cells (I64 b).toArray 65)) (I64 Z16) 65
    rw [World.size_alloc, World.size_alloc] at this
    exact this
  have hBl : Below w.heap.size w W := by rw [hW]; exact (((Below.refl _ _).alloc (Nat.le_refl _) _).alloc (by simp) _).alloc (by simp; omega) _
  obtain ⟨B, hB⟩ : ∃ B, B = (I64 b).toArray := ⟨_, rfl⟩
  rw [← hB] at hW ⊢
  have HBB : Hid _ := hB
  have h1' := hW ▸ h1
  clear hA hB
  go_enter Tryz.func125, Tryz.ntmps125
  go_wp2_with (refine wpList_load_row rfl 65 _ rfl (w.heap.size + 1) rfl 65 (I64 b).toArray (0, 0) _ h1' Tryz.underlying65 rfl (by simpa [hb] using infoL) ?_)
  rw [← hW]
  clear hW h1'
  go_loopw [8] (fun i wr => ∃ k : Nat, k ≤ 16 ∧ i = .int .i64 k ∧ Arr wr w.heap.size 65 (I64 (zs.take k ++ a.drop k)) ∧ Arr wr (w.heap.size + 2) 65 (I64 Z16) ∧ Below w.heap.size w wr) (fun i _ => 16 - (intOf i).toNat)
  case atStart => exact ⟨0, by omega, rfl, h0, h2, hBl⟩
  case round =>
    clear h0 h1 h2 hBl
    obtain ⟨k, hk, rfl, h0, h2, hBl⟩ := hrel
    have hfl : (zs.take k).length = k := by simp; omega
    by_cases hlt : k < 16
    · obtain ⟨x, hx⟩ : ∃ x, x = a.getD k 0 := ⟨_, rfl⟩
      obtain ⟨y, hy⟩ : ∃ y, y = b.getD k 0 := ⟨_, rfl⟩
      have ix := fun w => index_arr Tryz.underlying65 Tryz.underlying3 infoL1 b hb k hlt w
      rw [← hy] at ix
      have cx : wr.cell? ⟨w.heap.size, k, none⟩ = some (.int .i64 x) := by
        rw [h0.i64 k (by rw [len_app hfl (by omega)]; omega), get_app hfl, hx]
      have bx := gD_lm la k
      have by' := gD_lm lb k
      rw [← hx] at bx
      rw [← hy] at by'
      have hz := HZX.out k hlt
      rw [← hx, ← hy] at hz
      have hts := take_app zs k (by omega)
      rw [hz] at hts
      have hfz := h0.frozen k
      have h0' := h0.set k (.int .i64 (x + y))
      rw [set_app hfl (show k < a.length by omega), ← hts] at h0'
      have h2' := h2.other ⟨w.heap.size, k, none⟩ (.int .i64 (x + y)) (by simp)
      have hb' := hBl.setCell (p := ⟨w.heap.size, k, none⟩) (Nat.le_refl _) (.int .i64 (x + y))
      have s1 : IntKind.i64.wrap (x + y) = x + y := by rw [IntKind.wrap_i64]; omega
      have hk16 : (k : Int) < 16 := by omega
      have hk0 : (0 : Int) ≤ (k : Int) := by omega
      have H0 : Hid _ := h0'
      have H2 : Hid _ := h2'
      have HB : Hid _ := hb'
      clear h0' h2' hb' h0 h2 hBl hx hy hz hts
      go_wp2
      go_roundw
      case rel => exact ⟨k + 1, by omega, by go_num, H0.out, H2.out, HB.out⟩
      case measure => simp [intOf]; omega
    · obtain rfl : k = 16 := by omega
      rw [List.take_of_length_le (by omega), List.drop_eq_nil_of_le (by omega), List.append_nil] at h0
      clear hfl
      go_wp2_with (refine wpList_load_row rfl 65 _ rfl w.heap.size rfl 65 (I64 zs).toArray (0, 0) _ h0 Tryz.underlying65 rfl (by simpa [hzl] using infoL) ?_)
      refine (HZC.out _).mono ?_
      rintro e w1 ⟨rfl, hb1⟩
      have h21 := h2.kept hb1
      have hB1 := hBl.trans (hb1.mono hBl.size)
      have hRl := crd_len hzl
      obtain ⟨R, hR⟩ : ∃ R, R = crd zs := ⟨_, rfl⟩
      rw [← hR] at hRl ⊢
      have HR : Hid _ := hR
      have h22 := h21.row (I64 R)
      have hb2 := setRow_below hB1 (w.heap.size + 2) (I64 R).toArray (by omega)
      clear hR h0 h2 hBl hb1 HZC
      go_wp2_with (refine wpList_store_row rfl 65 _ _ rfl (w.heap.size + 2) (I64 R).toArray rfl rfl 65 _ h21 (by simpa [hRl] using infoL) (by simp [hRl]) (by simp [Value.oneCell']) ?_)
      exact bodyPost_ret (results_cell_row rfl _ _ (w.heap.size + 2) 65 (I64 R).toArray (0, 0) _ rfl h22 Tryz.underlying65 rfl (by simpa [hRl] using infoL)) rfl ⟨by rw [HR.out], hb2⟩

set_option maxHeartbeats 2000000 in
theorem implMinus (a b : List Int) (w : World) (ha : a.length = 16) (hb : b.length = 16) (la : Lm a) (lb : Lm b) :
    Calls Tryz.prog 129 #[.agg (I64 a).toArray, .agg (I64 b).toArray] w fun e w' => e = .returned (.agg (I64 (crd (List.zipWith (fun x y => x - y) a b))).toArray) ∧ Below w.heap.size w w' := by
  obtain ⟨A, hA⟩ : ∃ A, A = (I64 a).toArray := ⟨_, rfl⟩
  rw [← hA]
  obtain ⟨zs, hzs⟩ : ∃ zs, zs = List.zipWith (fun x y => x - y) a b := ⟨_, rfl⟩
  have hzl : zs.length = 16 := by rw [hzs]; simp [ha, hb]
  have hzc : Cb zs := by rw [hzs]; exact cb_of (zip_bd (fun x y _ _ _ _ => by omega) la lb)
  have hzx : ∀ k, k < 16 → zs.getD k 0 = a.getD k 0 - b.getD k 0 := by
    intro k hk
    rw [hzs]
    exact zip_at _ ha hb k hk
  rw [← hzs]
  have HZX : Hid _ := hzx
  have HZC : Hid (∀ Z, Calls Tryz.prog 133 #[.agg (I64 zs).toArray] Z fun e w' => e = .returned (.agg (I64 (crd zs)).toArray) ∧ Below Z.heap.size Z w') := by
    unfold Hid; intro Z; exact implCarried zs Z hzl hzc
  clear hzs hzx hzc
  obtain ⟨W, hW⟩ : ∃ W, W = ((w.alloc (.cells A 65)).alloc (.cells (I64 b).toArray 65)).alloc (.cells #[.int .i64 0, .int .i64 0, .int .i64 0, .int .i64 0, .int .i64 0, .int .i64 0, .int .i64 0, .int .i64 0, .int .i64 0, .int .i64 0, .int .i64 0, .int .i64 0, .int .i64 0, .int .i64 0, .int .i64 0, .int .i64 0] 65) := ⟨_, rfl⟩
  have h0 : Arr W w.heap.size 65 (I64 (zs.take 0 ++ a.drop 0)) := by rw [hW, hA]; exact ((Arr.new w (I64 a) _).alloc _).alloc _
  have h1 : Arr W (w.heap.size + 1) 65 (I64 b) := by
    rw [hW]
    have := (Arr.new (w.alloc (.cells A 65)) (I64 b) 65).alloc (.cells (I64 Z16).toArray 65)
    rw [World.size_alloc] at this
    exact this
  have h2 : Arr W (w.heap.size + 2) 65 (I64 Z16) := by
    rw [hW]
    have := Arr.new ((w.alloc (.cells A 65)).alloc (.cells (I64 b).toArray 65)) (I64 Z16) 65
    rw [World.size_alloc, World.size_alloc] at this
    exact this
  have hBl : Below w.heap.size w W := by rw [hW]; exact (((Below.refl _ _).alloc (Nat.le_refl _) _).alloc (by simp) _).alloc (by simp; omega) _
  obtain ⟨B, hB⟩ : ∃ B, B = (I64 b).toArray := ⟨_, rfl⟩
  rw [← hB] at hW ⊢
  have HBB : Hid _ := hB
  have h1' := hW ▸ h1
  clear hA hB
  go_enter Tryz.func129, Tryz.ntmps129
  go_wp2_with (refine wpList_load_row rfl 65 _ rfl (w.heap.size + 1) rfl 65 (I64 b).toArray (0, 0) _ h1' Tryz.underlying65 rfl (by simpa [hb] using infoL) ?_)
  rw [← hW]
  clear hW h1'
  go_loopw [8] (fun i wr => ∃ k : Nat, k ≤ 16 ∧ i = .int .i64 k ∧ Arr wr w.heap.size 65 (I64 (zs.take k ++ a.drop k)) ∧ Arr wr (w.heap.size + 2) 65 (I64 Z16) ∧ Below w.heap.size w wr) (fun i _ => 16 - (intOf i).toNat)
  case atStart => exact ⟨0, by omega, rfl, h0, h2, hBl⟩
  case round =>
    clear h0 h1 h2 hBl
    obtain ⟨k, hk, rfl, h0, h2, hBl⟩ := hrel
    have hfl : (zs.take k).length = k := by simp; omega
    by_cases hlt : k < 16
    · obtain ⟨x, hx⟩ : ∃ x, x = a.getD k 0 := ⟨_, rfl⟩
      obtain ⟨y, hy⟩ : ∃ y, y = b.getD k 0 := ⟨_, rfl⟩
      have ix := fun w => index_arr Tryz.underlying65 Tryz.underlying3 infoL1 b hb k hlt w
      rw [← hy] at ix
      have cx : wr.cell? ⟨w.heap.size, k, none⟩ = some (.int .i64 x) := by
        rw [h0.i64 k (by rw [len_app hfl (by omega)]; omega), get_app hfl, hx]
      have bx := gD_lm la k
      have by' := gD_lm lb k
      rw [← hx] at bx
      rw [← hy] at by'
      have hz := HZX.out k hlt
      rw [← hx, ← hy] at hz
      have hts := take_app zs k (by omega)
      rw [hz] at hts
      have hfz := h0.frozen k
      have h0' := h0.set k (.int .i64 (x - y))
      rw [set_app hfl (show k < a.length by omega), ← hts] at h0'
      have h2' := h2.other ⟨w.heap.size, k, none⟩ (.int .i64 (x - y)) (by simp)
      have hb' := hBl.setCell (p := ⟨w.heap.size, k, none⟩) (Nat.le_refl _) (.int .i64 (x - y))
      have s1 : IntKind.i64.wrap (x - y) = x - y := by rw [IntKind.wrap_i64]; omega
      have hk16 : (k : Int) < 16 := by omega
      have hk0 : (0 : Int) ≤ (k : Int) := by omega
      have H0 : Hid _ := h0'
      have H2 : Hid _ := h2'
      have HB : Hid _ := hb'
      clear h0' h2' hb' h0 h2 hBl hx hy hz hts
      go_wp2
      go_roundw
      case rel => exact ⟨k + 1, by omega, by go_num, H0.out, H2.out, HB.out⟩
      case measure => simp [intOf]; omega
    · obtain rfl : k = 16 := by omega
      rw [List.take_of_length_le (by omega), List.drop_eq_nil_of_le (by omega), List.append_nil] at h0
      clear hfl
      go_wp2_with (refine wpList_load_row rfl 65 _ rfl w.heap.size rfl 65 (I64 zs).toArray (0, 0) _ h0 Tryz.underlying65 rfl (by simpa [hzl] using infoL) ?_)
      refine (HZC.out _).mono ?_
      rintro e w1 ⟨rfl, hb1⟩
      have h21 := h2.kept hb1
      have hB1 := hBl.trans (hb1.mono hBl.size)
      have hRl := crd_len hzl
      obtain ⟨R, hR⟩ : ∃ R, R = crd zs := ⟨_, rfl⟩
      rw [← hR] at hRl ⊢
      have HR : Hid _ := hR
      have h22 := h21.row (I64 R)
      have hb2 := setRow_below hB1 (w.heap.size + 2) (I64 R).toArray (by omega)
      clear hR h0 h2 hBl hb1 HZC
      go_wp2_with (refine wpList_store_row rfl 65 _ _ rfl (w.heap.size + 2) (I64 R).toArray rfl rfl 65 _ h21 (by simpa [hRl] using infoL) (by simp [hRl]) (by simp [Value.oneCell']) ?_)
      exact bodyPost_ret (results_cell_row rfl _ _ (w.heap.size + 2) 65 (I64 R).toArray (0, 0) _ rfl h22 Tryz.underlying65 rfl (by simpa [hRl] using infoL)) rfl ⟨by rw [HR.out], hb2⟩

theorem plus_lim {a b : List Int} (ha : a.length = 16) (hb : b.length = 16) (h0 : 0 ≤ val a + val b) (h1 : val a + val b < 115792089237316195423570985008687907853269984665640564039457584007913129639936) : crd (List.zipWith (fun x y => x + y) a b) = lim 16 (val a + val b) := by
  have e := zipAdd_val a b (by omega)
  rw [crd_lim (by simp [ha, hb]) (by rw [e]; exact h0) (by rw [e]; exact h1), e]
theorem minus_lim {a b : List Int} (ha : a.length = 16) (hb : b.length = 16) (h0 : 0 ≤ val a - val b) (h1 : val a - val b < 115792089237316195423570985008687907853269984665640564039457584007913129639936) : crd (List.zipWith (fun x y => x - y) a b) = lim 16 (val a - val b) := by
  have e := zipSub_val a b (by omega)
  rw [crd_lim (by simp [ha, hb]) (by rw [e]; exact h0) (by rw [e]; exact h1), e]
theorem val256 {a : List Int} (ha : a.length = 16) (la : Lm a) : 0 ≤ val a ∧ val a < 115792089237316195423570985008687907853269984665640564039457584007913129639936 := by
  have h1 := val_lt la
  rw [ha, p256] at h1
  exact ⟨val_nonneg (fun x hx => (la x hx).1), h1⟩

/-- Limbs that are read and the result's cell, through whatever keeps what is there. -/
structure L3 (w W : World) (a b : List Int) : Prop where
  fr : Below w.heap.size w W
  pa : Arr W w.heap.size 65 (I64 a)
  pb : Arr W (w.heap.size + 1) 65 (I64 b)
  pr : Arr W (w.heap.size + 2) 65 (I64 Z16)
theorem L3.go {w A B : World} {a b : List Int} (h : L3 w A a b) (hb : Below A.heap.size A B) : L3 w B a b := ⟨h.fr.trans (hb.mono h.fr.size), h.pa.kept hb, h.pb.kept hb, h.pr.kept hb⟩
theorem L3.new (w : World) (a b : List Int) : L3 w (((w.alloc (.cells (I64 a).toArray 65)).alloc (.cells (I64 b).toArray 65)).alloc (.cells (I64 Z16).toArray 65)) a b := by
  refine ⟨(((Below.refl _ _).alloc (Nat.le_refl _) _).alloc (by simp) _).alloc (by simp; omega) _, ((Arr.new w (I64 a) _).alloc _).alloc _, ?_, ?_⟩
  · have := (Arr.new (w.alloc (.cells (I64 a).toArray 65)) (I64 b) 65).alloc (.cells (I64 Z16).toArray 65)
    rw [World.size_alloc] at this
    exact this
  · have := Arr.new ((w.alloc (.cells (I64 a).toArray 65)).alloc (.cells (I64 b).toArray 65)) (I64 Z16) 65
    rw [World.size_alloc, World.size_alloc] at this
    exact this

set_option maxHeartbeats 2000000 in
theorem implLess (a b : List Int) (w : World) (ha : a.length = 16) (hb : b.length = 16) (la : Lm a) (lb : Lm b) :
    Calls Tryz.prog 126 #[.agg (I64 a).toArray, .agg (I64 b).toArray] w fun e w' => e = .returned (.agg (I64 (lim 16 (if val a < val b then val a else val a - val b))).toArray) ∧ Below w.heap.size w w' := by
  obtain ⟨R, hR⟩ : ∃ R, R = lim 16 (if val a < val b then val a else val a - val b) := ⟨_, rfl⟩
  have hRl : R.length = 16 := by rw [hR]; exact lim_len _ _
  rw [← hR]
  obtain ⟨d, hd⟩ : ∃ d, d = decide (val a < val b) := ⟨_, rfl⟩
  have v1 := val256 ha la
  have v2 := val256 hb lb
  have HY : Hid (d = true → R = a) := by
    unfold Hid; intro h
    have h' : val a < val b := by rw [hd] at h; simpa using h
    have := lim_val a la
    rw [ha] at this
    rw [hR, if_pos h', this]
  have HN : Hid (d = false → ∀ Z, Calls Tryz.prog 129 #[.agg (I64 a).toArray, .agg (I64 b).toArray] Z fun e w' => e = .returned (.agg (I64 R).toArray) ∧ Below Z.heap.size Z w') := by
    unfold Hid; intro h Z
    have h' : ¬ val a < val b := by rw [hd] at h; simpa using h
    have := implMinus a b Z ha hb la lb
    rw [minus_lim ha hb (by omega) (by omega)] at this
    rw [hR, if_neg h']
    exact this
  have HB : Hid (∀ Z, Calls Tryz.prog 97 #[.agg (I64 a).toArray, .agg (I64 b).toArray] Z fun e w' => e = .returned (.bool d) ∧ Below Z.heap.size Z w') := by
    unfold Hid; intro Z; rw [hd]; exact implBelow a b Z ha hb la lb
  clear hd hR v1 v2
  obtain ⟨W, hW⟩ : ∃ W, W = ((w.alloc (.cells (I64 a).toArray 65)).alloc (.cells (I64 b).toArray 65)).alloc (.cells #[.int .i64 0, .int .i64 0, .int .i64 0, .int .i64 0, .int .i64 0, .int .i64 0, .int .i64 0, .int .i64 0, .int .i64 0, .int .i64 0, .int .i64 0, .int .i64 0, .int .i64 0, .int .i64 0, .int .i64 0, .int .i64 0] 65) := ⟨_, rfl⟩
  have EE : L3 w W a b := by rw [hW]; exact L3.new w a b
  obtain ⟨A, hA⟩ : ∃ A, A = (I64 a).toArray := ⟨_, rfl⟩
  obtain ⟨B, hB⟩ : ∃ B, B = (I64 b).toArray := ⟨_, rfl⟩
  rw [← hA, ← hB] at hW ⊢
  clear hA hB
  have hia : (Tryz.prog.info? 65).map (·.size) = some (I64 a).toArray.size := by simpa [ha] using infoL
  have hib : (Tryz.prog.info? 65).map (·.size) = some (I64 b).toArray.size := by simpa [hb] using infoL
  have E0 := hW ▸ EE
  go_enter Tryz.func126, Tryz.ntmps126
  go_wp2_with (first
    | (refine wpList_load_row rfl 65 _ rfl w.heap.size rfl 65 (I64 a).toArray (0, 0) _ E0.pa Tryz.underlying65 rfl hia ?_)
    | (refine wpList_load_row rfl 65 _ rfl (w.heap.size + 1) rfl 65 (I64 b).toArray (0, 0) _ E0.pb Tryz.underlying65 rfl hib ?_))
  rw [← hW]
  clear hW E0
  refine (HB.out _).mono ?_
  rintro e w1 ⟨rfl, hb1⟩
  replace EE := EE.go hb1
  clear hb1
  cases d with
  | true =>
    obtain rfl : R = a := HY.out rfl
    clear HY HN HB
    have hr := EE.pr.row (I64 R)
    have hbl := setRow_below EE.fr (w.heap.size + 2) (I64 R).toArray (by omega)
    go_wp2_with (first
      | (refine wpList_load_row rfl 65 _ rfl w.heap.size rfl 65 (I64 R).toArray (0, 0) _ EE.pa Tryz.underlying65 rfl hia ?_)
      | (refine wpList_store_row rfl 65 _ _ rfl (w.heap.size + 2) (I64 R).toArray rfl rfl 65 _ EE.pr hia (by simp [hRl]) (by simp [Value.oneCell']) ?_))
    exact bodyPost_ret (results_cell_row rfl _ _ (w.heap.size + 2) 65 (I64 R).toArray (0, 0) _ rfl hr Tryz.underlying65 rfl hia) rfl ⟨rfl, hbl⟩
  | false =>
    have hm := HN.out rfl
    have HM : Hid _ := hm
    clear HY HN HB hm
    go_wp2_with (first
      | (refine wpList_load_row rfl 65 _ rfl w.heap.size rfl 65 (I64 a).toArray (0, 0) _ EE.pa Tryz.underlying65 rfl hia ?_)
      | (refine wpList_load_row rfl 65 _ rfl (w.heap.size + 1) rfl 65 (I64 b).toArray (0, 0) _ EE.pb Tryz.underlying65 rfl hib ?_))
    refine (HM.out _).mono ?_
    rintro e w2 ⟨rfl, hb2⟩
    replace EE := EE.go hb2
    clear hb2 HM
    have hr := EE.pr.row (I64 R)
    have hbl := setRow_below EE.fr (w.heap.size + 2) (I64 R).toArray (by omega)
    have hiR : (Tryz.prog.info? 65).map (·.size) = some (I64 R).toArray.size := by simpa [hRl] using infoL
    go_wp2_with (refine wpList_store_row rfl 65 _ _ rfl (w.heap.size + 2) (I64 R).toArray rfl rfl 65 _ EE.pr hiR (by simp [hRl]) (by simp [Value.oneCell']) ?_)
    exact bodyPost_ret (results_cell_row rfl _ _ (w.heap.size + 2) 65 (I64 R).toArray (0, 0) _ rfl hr Tryz.underlying65 rfl hiR) rfl ⟨rfl, hbl⟩
end Go.Proofs.YtihoaakbkffejaaGreatDoor
namespace Go.Proofs.YtihoaakbkffejaaGreatDoor
open Go.RowKit
set_option maxRecDepth 100000

/-- Limbs that are read, the result's cell, and the program's prime. -/
structure L4 (w W : World) (a b : List Int) : Prop where
  l3 : L3 w W a b
  vr : Vr W 4 (I64 PL)
  g0 : 4 < w.heap.size
theorem L4.go {w A B : World} {a b : List Int} (h : L4 w A a b) (hb : Below A.heap.size A B) : L4 w B a b := ⟨h.l3.go hb, h.vr.kept hb, h.g0⟩
theorem L4.all {w W : World} {a b : List Int} (h : L4 w W a b) : W.rangeAt w.heap.size 0 (I64 a) ∧ W.rangeAt (w.heap.size + 1) 0 (I64 b) ∧ W.rangeAt 4 0 (I64 PL) := ⟨arr_range h.l3.pa, arr_range h.l3.pb, vr_range h.vr⟩
theorem L4.new {w : World} (a b : List Int) (h : Vr w 4 (I64 PL)) : L4 w (((w.alloc (.cells (I64 a).toArray 65)).alloc (.cells (I64 b).toArray 65)).alloc (.cells (I64 Z16).toArray 65)) a b :=
  ⟨L3.new w a b, h.kept (L3.new w a b).fr, h.lt⟩
/-- The result is stored. -/
theorem L4.put {w W : World} {a b R : List Int} (h : L4 w W a b) (hR : R.length = 16) : Arr (W.setCells (w.heap.size + 1 + 1) 0 (I64 R)) (w.heap.size + 1 + 1) 65 (I64 R) ∧ Below w.heap.size w (W.setCells (w.heap.size + 1 + 1) 0 (I64 R)) ∧
    ((W.setCells (w.heap.size + 1 + 1) 0 (I64 R)).rangeAt w.heap.size 0 (I64 a) ∧ (W.setCells (w.heap.size + 1 + 1) 0 (I64 R)).rangeAt (w.heap.size + 1) 0 (I64 b) ∧ (W.setCells (w.heap.size + 1 + 1) 0 (I64 R)).rangeAt 4 0 (I64 PL)) ∧ W.there (w.heap.size + 1 + 1) 0 (I64 R).toArray.size := by
  have hg := h.l3.pa.lt
  have h0 : 4 ≠ w.heap.size + 1 + 1 := by have := h.g0; omega
  exact ⟨Arr.setCells0 h.l3.pr (by simp [hR]), setCells_below (by omega) _ _ h.l3.fr, ⟨arr_range (Arr.setCellsO (by omega) _ _ h.l3.pa), arr_range (Arr.setCellsO (by omega) _ _ h.l3.pb), vr_range (Vr.setCellsO h0 h.vr)⟩, by have := arr_there h.l3.pr; simpa [hR] using this⟩
theorem less_of {x v : Int} (h0 : 0 ≤ x) (h1 : x < 2 * P25519) (h2 : x % P25519 = v % P25519) : lim 16 (if val (lim 16 x) < val PL then val (lim 16 x) else val (lim 16 x) - val PL) = red v := by
  have h3 : x < 115792089237316195423570985008687907853269984665640564039457584007913129639936 := by unfold P25519 at h1; omega
  rw [val_pl h0 h3, PL_val]
  have := less_red h0 h1 h2
  by_cases h : x < P25519
  · rw [if_pos h]; exact this.1 h
  · rw [if_neg h]; exact this.2 h

set_option maxHeartbeats 2000000 in
theorem implSum (a b : List Int) (w : World) (ha : feOk a = true) (hb : feOk b = true) (hV : Vr w 4 (I64 PL)) :
    Calls Tryz.prog 100 #[.agg (I64 a).toArray, .agg (I64 b).toArray] w fun e w' => e = .returned (.agg (I64 (red (val a + val b))).toArray) ∧ Below w.heap.size w w' := by
  obtain ⟨la16, la, va⟩ := (feOk_iff a).1 ha
  obtain ⟨lb16, lb, vb⟩ := (feOk_iff b).1 hb
  have na := val_nonneg (fun x hx => (la x hx).1)
  have nb := val_nonneg (fun x hx => (lb x hx).1)
  obtain ⟨R, hR⟩ : ∃ R, R = red (val a + val b) := ⟨_, rfl⟩
  have hRl : R.length = 16 := by rw [hR]; exact red_len _
  obtain ⟨S, hS⟩ : ∃ S, S = lim 16 (val a + val b) := ⟨_, rfl⟩
  have hSl : S.length = 16 := by rw [hS]; exact lim_len _ _
  have HPL : Hid (∀ Z, Calls Tryz.prog 125 #[.agg (I64 a).toArray, .agg (I64 b).toArray] Z fun e w' => e = .returned (.agg (I64 S).toArray) ∧ Below Z.heap.size Z w') := by
    unfold Hid; intro Z
    have := implPlus a b Z la16 lb16 la lb
    rw [plus_lim la16 lb16 (by omega) (by unfold P25519 at va vb; omega), ← hS] at this
    exact this
  have HLS : Hid (∀ Z, Calls Tryz.prog 126 #[.agg (I64 S).toArray, .agg (I64 PL).toArray] Z fun e w' => e = .returned (.agg (I64 R).toArray) ∧ Below Z.heap.size Z w') := by
    unfold Hid; intro Z
    have := implLess S PL Z hSl PL_len (by rw [hS]; exact lim_lm _ _) PL_lm
    rw [hS, less_of (v := val a + val b) (by omega) (by omega) rfl, ← hS, ← hR] at this
    exact this
  rw [← hR]
  obtain ⟨W, hW⟩ : ∃ W, W = ((w.alloc (.cells (I64 a).toArray 65)).alloc (.cells (I64 b).toArray 65)).alloc (.cells #[.int .i64 0, .int .i64 0, .int .i64 0, .int .i64 0, .int .i64 0, .int .i64 0, .int .i64 0, .int .i64 0, .int .i64 0, .int .i64 0, .int .i64 0, .int .i64 0, .int .i64 0, .int .i64 0, .int .i64 0, .int .i64 0] 65) := ⟨_, rfl⟩
  have EE : L4 w W.drew a b := by
    have : L4 w W a b := by rw [hW]; exact L4.new a b hV
    exact this.go (Below.refl _ _).drew
  obtain ⟨A, hA⟩ : ∃ A, A = (I64 a).toArray := ⟨_, rfl⟩
  obtain ⟨B, hB⟩ : ∃ B, B = (I64 b).toArray := ⟨_, rfl⟩
  rw [← hA, ← hB] at hW ⊢
  have hone := one_lm R
  have hu : Tryz.prog.underlying 65 = some (.array 16 3) := Tryz.underlying65
  have hia : (Tryz.prog.info? 65).map (·.size) = some (I64 a).length := by simpa [la16] using infoL
  have hib : (Tryz.prog.info? 65).map (·.size) = some (I64 b).length := by simpa [lb16] using infoL
  have hip : (Tryz.prog.info? 65).map (·.size) = some (I64 PL).length := infoL
  have hir : (Tryz.prog.info? 65).map (·.size) = some (I64 R).toArray.size := by simpa [hRl] using infoL
  clear ha hb la lb va vb na nb hR hS hA hB hV
  go_enter Tryz.func100, Tryz.ntmps100
  go_wp2
  rw [← hW]
  clear hW
  refine wp_region_held_drew (S := fun W => W.rangeAt w.heap.size 0 (I64 a) ∧ W.rangeAt (w.heap.size + 1) 0 (I64 b) ∧ W.rangeAt 4 0 (I64 PL)) (by kernel_rfl) EE.all (fun hHeld => ?_)
  refine wpAnyH_take (i := 0) (oi := { dst := some 5, op := Op.load 65 (Operand.tmp 2), type := 65, pos := "l04_field.go:205", after := #[], guard := none }) (v := _) rfl (by kernel_rfl) (by kernel_rfl) (by kernel_rfl) (fun _ _ _ h => h) (yieldsIf_load_mid (by rfl) _ _ rfl _ _ rfl (I64 a) _ (fun _ h => h.1) hu rfl hia) (by assumption) ?_
  simp only [Act.put, List.setIfInBounds_toArray, List.set_cons_zero, List.set_cons_succ]
  refine wpAnyH_take (i := 1) (oi := { dst := some 6, op := Op.load 65 (Operand.tmp 3), type := 65, pos := "l04_field.go:205", after := #[], guard := none }) (v := _) rfl (by kernel_rfl) (by kernel_rfl) (by kernel_rfl) (fun _ _ _ h => h) (yieldsIf_load_mid (by rfl) _ _ rfl _ _ rfl (I64 b) _ (fun _ h => h.2.1) hu rfl hib) (by assumption) ?_
  simp only [Act.put, List.setIfInBounds_toArray, List.set_cons_zero, List.set_cons_succ]
  refine wpAnyH_take (i := 3) (oi := { dst := some 8, op := Op.load 65 (Operand.global 4), type := 65, pos := "l04_field.go:205", after := #[], guard := none }) (v := _) rfl (by kernel_rfl) (by kernel_rfl) (by kernel_rfl) (fun _ _ _ h => h) (yieldsIf_load_mid (by rfl) _ _ rfl _ _ rfl (I64 PL) _ (fun _ h => h.2.2) hu rfl hip) (by assumption) ?_
  simp only [Act.put, List.setIfInBounds_toArray, List.set_cons_zero, List.set_cons_succ]
  refine wpAnyH_ready (rs := [2]) (by kernel_rfl) (by simp) (AllReadyH.cons (o := { dst := some 7, op := Op.call { callee := Callee.value (Operand.func 125), args := #[Operand.tmp 5, Operand.tmp 6], argTypes := #[65, 65] }, type := 65, pos := "l04_field.go:205", after := #[{ on := 0, ground := Ground.data }, { on := 1, ground := Ground.data }], guard := none }) rfl (fun K hK => ?_) AllReadyH.nil)
  go_simp
  refine (HPL.out _).mono ?_
  rintro e w1 ⟨rfl, hb1⟩
  replace EE := EE.go hb1
  go_wp2_with fail
  refine hK.out _ _ EE.all (fun hHeld => ?_)
  clear hK K hb1
  refine wpAnyH_ready (rs := [4]) (by kernel_rfl) (by simp) (AllReadyH.cons (o := { dst := some 9, op := Op.call { callee := Callee.value (Operand.func 126), args := #[Operand.tmp 7, Operand.tmp 8], argTypes := #[65, 65] }, type := 65, pos := "l04_field.go:205", after := #[{ on := 2, ground := Ground.data }, { on := 3, ground := Ground.data }, { on := 2, ground := Ground.chain }], guard := none }) rfl (fun K hK => ?_) AllReadyH.nil)
  go_simp
  refine (HLS.out _).mono ?_
  rintro e w2 ⟨rfl, hb2⟩
  replace EE := EE.go hb2
  go_wp2_with fail
  refine hK.out _ _ EE.all (fun hHeld => ?_)
  clear hK K hb2
  obtain ⟨hA5, hB5, hS5, hth⟩ := EE.put hRl
  refine wpAnyH_ready (rs := [5]) (by kernel_rfl) (by simp) (AllReadyH.cons (o := { dst := none, op := Op.store 65 (Operand.tmp 4) (Operand.tmp 9), type := 0, pos := "l04_field.go:205", after := #[{ on := 4, ground := Ground.data }, { on := 4, ground := Ground.chain }, { on := 0, ground := Ground.phase }, { on := 1, ground := Ground.phase }, { on := 2, ground := Ground.phase }, { on := 3, ground := Ground.phase }, { on := 4, ground := Ground.phase }], guard := none }) rfl (fun K hK => ?_) AllReadyH.nil)
  rw [if_pos (by rfl)]
  refine wp_store_mid _ _ _ rfl _ _ (I64 R).toArray rfl rfl hth hir (all_oneCell_toArray hone) ?_
  simp only [Act.put]
  refine hK.out _ _ hS5 (fun hHeld => ?_)
  clear hK K
  refine wpAnyH_done (by kernel_rfl) ?_ _
  go_wp2
  exact bodyPost_ret (results_cell_row rfl _ _ (w.heap.size + 1 + 1) 65 (I64 R).toArray (0, 0) _ rfl hA5 Tryz.underlying65 rfl hir) rfl ⟨rfl, hB5⟩

set_option maxHeartbeats 2000000 in
theorem implDiff (a b : List Int) (w : World) (ha : feOk a = true) (hb : feOk b = true) (hV : Vr w 4 (I64 PL)) :
    Calls Tryz.prog 99 #[.agg (I64 a).toArray, .agg (I64 b).toArray] w fun e w' => e = .returned (.agg (I64 (red (val a - val b))).toArray) ∧ Below w.heap.size w w' := by
  obtain ⟨la16, la, va⟩ := (feOk_iff a).1 ha
  obtain ⟨lb16, lb, vb⟩ := (feOk_iff b).1 hb
  have na := val_nonneg (fun x hx => (la x hx).1)
  have nb := val_nonneg (fun x hx => (lb x hx).1)
  obtain ⟨R, hR⟩ : ∃ R, R = red (val a - val b) := ⟨_, rfl⟩
  have hRl : R.length = 16 := by rw [hR]; exact red_len _
  obtain ⟨d, hd⟩ : ∃ d, d = decide (val a < val b) := ⟨_, rfl⟩
  obtain ⟨S, hS⟩ : ∃ S, S = lim 16 (val a + P25519) := ⟨_, rfl⟩
  have hSl : S.length = 16 := by rw [hS]; exact lim_len _ _
  have HBW : Hid (∀ Z, Calls Tryz.prog 97 #[.agg (I64 a).toArray, .agg (I64 b).toArray] Z fun e w' => e = .returned (.bool d) ∧ Below Z.heap.size Z w') := by
    unfold Hid; intro Z; rw [hd]; exact implBelow a b Z la16 lb16 la lb
  have HPL : Hid (∀ Z, Calls Tryz.prog 125 #[.agg (I64 a).toArray, .agg (I64 PL).toArray] Z fun e w' => e = .returned (.agg (I64 S).toArray) ∧ Below Z.heap.size Z w') := by
    unfold Hid; intro Z
    have := implPlus a PL Z la16 PL_len la PL_lm
    rw [plus_lim la16 PL_len (by rw [PL_val]; unfold P25519; omega) (by rw [PL_val]; unfold P25519 at va ⊢; omega), PL_val, ← hS] at this
    exact this
  have HM1 : Hid (d = true → ∀ Z, Calls Tryz.prog 129 #[.agg (I64 S).toArray, .agg (I64 b).toArray] Z fun e w' => e = .returned (.agg (I64 R).toArray) ∧ Below Z.heap.size Z w') := by
    unfold Hid; intro h Z
    have h' : val a < val b := by rw [hd] at h; simpa using h
    have hv : val S = val a + P25519 := by rw [hS]; exact val_pl (by unfold P25519; omega) (by unfold P25519 at va ⊢; omega)
    have := implMinus S b Z hSl lb16 (by rw [hS]; exact lim_lm _ _) lb
    rw [minus_lim hSl lb16 (by rw [hv]; omega) (by rw [hv]; unfold P25519 at va ⊢; omega), hv] at this
    have e : lim 16 (val a + P25519 - val b) = R := by
      rw [hR]
      unfold red
      congr 1
      unfold P25519 at va vb ⊢
      omega
    rw [e] at this
    exact this
  have HM2 : Hid (d = false → ∀ Z, Calls Tryz.prog 129 #[.agg (I64 a).toArray, .agg (I64 b).toArray] Z fun e w' => e = .returned (.agg (I64 R).toArray) ∧ Below Z.heap.size Z w') := by
    unfold Hid; intro h Z
    have h' : ¬ val a < val b := by rw [hd] at h; simpa using h
    have := implMinus a b Z la16 lb16 la lb
    rw [minus_lim la16 lb16 (by omega) (by unfold P25519 at va; omega)] at this
    have e : lim 16 (val a - val b) = R := by
      rw [hR]
      unfold red
      congr 1
      unfold P25519 at va vb ⊢
      omega
    rw [e] at this
    exact this
  rw [← hR]
  obtain ⟨W, hW⟩ : ∃ W, W = ((w.alloc (.cells (I64 a).toArray 65)).alloc (.cells (I64 b).toArray 65)).alloc (.cells #[.int .i64 0, .int .i64 0, .int .i64 0, .int .i64 0, .int .i64 0, .int .i64 0, .int .i64 0, .int .i64 0, .int .i64 0, .int .i64 0, .int .i64 0, .int .i64 0, .int .i64 0, .int .i64 0, .int .i64 0, .int .i64 0] 65) := ⟨_, rfl⟩
  have EE : L4 w W a b := by rw [hW]; exact L4.new a b hV
  obtain ⟨A, hA⟩ : ∃ A, A = (I64 a).toArray := ⟨_, rfl⟩
  obtain ⟨B, hB⟩ : ∃ B, B = (I64 b).toArray := ⟨_, rfl⟩
  rw [← hA, ← hB] at hW ⊢
  have hia : (Tryz.prog.info? 65).map (·.size) = some (I64 a).toArray.size := by simpa [la16] using infoL
  have hib : (Tryz.prog.info? 65).map (·.size) = some (I64 b).toArray.size := by simpa [lb16] using infoL
  have hip : (Tryz.prog.info? 65).map (·.size) = some (I64 PL).toArray.size := infoL
  have hir : (Tryz.prog.info? 65).map (·.size) = some (I64 R).toArray.size := by simpa [hRl] using infoL
  have his : (Tryz.prog.info? 65).map (·.size) = some (I64 S).toArray.size := by simpa [hSl] using infoL
  clear ha hb la lb va vb na nb hR hS hA hB hV hd
  have E0 := hW ▸ EE
  go_enter Tryz.func99, Tryz.ntmps99
  go_wp2_with (first
    | (refine wpList_load_row rfl 65 _ rfl w.heap.size rfl 65 (I64 a).toArray (0, 0) _ E0.l3.pa Tryz.underlying65 rfl hia ?_)
    | (refine wpList_load_row rfl 65 _ rfl (w.heap.size + 1) rfl 65 (I64 b).toArray (0, 0) _ E0.l3.pb Tryz.underlying65 rfl hib ?_))
  rw [← hW]
  clear hW E0
  refine (HBW.out _).mono ?_
  rintro e w1 ⟨rfl, hb1⟩
  replace EE := EE.go hb1
  clear hb1 HBW
  cases d with
  | true =>
    have hm := HM1.out rfl
    have HM : Hid _ := hm
    clear HM1 HM2 hm
    obtain ⟨gt, gz, hg⟩ := EE.vr
    go_wp2_with (first
      | (refine wpList_load_row rfl 65 _ rfl w.heap.size rfl 65 (I64 a).toArray (0, 0) _ EE.l3.pa Tryz.underlying65 rfl hia ?_)
      | (refine wpList_load_row rfl 65 _ rfl 4 rfl gt (I64 PL).toArray gz _ hg Tryz.underlying65 rfl hip ?_))
    clear hg
    refine (HPL.out _).mono ?_
    rintro e w2 ⟨rfl, hb2⟩
    replace EE := EE.go hb2
    clear hb2 HPL
    have pa := EE.l3.pa.row (I64 S)
    have pb := EE.l3.pb.rowOther w.heap.size (I64 S).toArray (by omega)
    have pr := EE.l3.pr.rowOther w.heap.size (I64 S).toArray (by omega)
    have fr := setRow_below EE.l3.fr w.heap.size (I64 S).toArray (Nat.le_refl _)
    go_wp2_with (first
      | (refine wpList_store_row rfl 65 _ _ rfl w.heap.size (I64 S).toArray rfl rfl 65 _ EE.l3.pa his (by simp [hSl, la16]) (by simp [Value.oneCell']) ?_)
      | (refine wpList_load_row rfl 65 _ rfl w.heap.size rfl 65 (I64 S).toArray (0, 0) _ pa Tryz.underlying65 rfl his ?_)
      | (refine wpList_load_row rfl 65 _ rfl (w.heap.size + 1) rfl 65 (I64 b).toArray (0, 0) _ pb Tryz.underlying65 rfl hib ?_))
    refine (HM.out _).mono ?_
    rintro e w3 ⟨rfl, hb3⟩
    have pr3 := pr.kept hb3
    have fr3 := fr.trans (hb3.mono fr.size)
    clear hb3 HM pa pb pr fr EE
    have hr := pr3.row (I64 R)
    have hbl := setRow_below fr3 (w.heap.size + 2) (I64 R).toArray (by omega)
    go_wp2_with (refine wpList_store_row rfl 65 _ _ rfl (w.heap.size + 2) (I64 R).toArray rfl rfl 65 _ pr3 hir (by simp [hRl]) (by simp [Value.oneCell']) ?_)
    exact bodyPost_ret (results_cell_row rfl _ _ (w.heap.size + 2) 65 (I64 R).toArray (0, 0) _ rfl hr Tryz.underlying65 rfl hir) rfl ⟨rfl, hbl⟩
  | false =>
    have hm := HM2.out rfl
    have HM : Hid _ := hm
    clear HM1 HM2 hm HPL
    go_wp2_with (first
      | (refine wpList_load_row rfl 65 _ rfl w.heap.size rfl 65 (I64 a).toArray (0, 0) _ EE.l3.pa Tryz.underlying65 rfl hia ?_)
      | (refine wpList_load_row rfl 65 _ rfl (w.heap.size + 1) rfl 65 (I64 b).toArray (0, 0) _ EE.l3.pb Tryz.underlying65 rfl hib ?_))
    refine (HM.out _).mono ?_
    rintro e w2 ⟨rfl, hb2⟩
    replace EE := EE.go hb2
    clear hb2 HM
    have hr := EE.l3.pr.row (I64 R)
    have hbl := setRow_below EE.l3.fr (w.heap.size + 2) (I64 R).toArray (by omega)
    go_wp2_with (refine wpList_store_row rfl 65 _ _ rfl (w.heap.size + 2) (I64 R).toArray rfl rfl 65 _ EE.l3.pr hir (by simp [hRl]) (by simp [Value.oneCell']) ?_)
    exact bodyPost_ret (results_cell_row rfl _ _ (w.heap.size + 2) 65 (I64 R).toArray (0, 0) _ rfl hr Tryz.underlying65 rfl hir) rfl ⟨rfl, hbl⟩
end Go.Proofs.YtihoaakbkffejaaGreatDoor
namespace Go.Proofs.YtihoaakbkffejaaGreatDoor
open Go.RowKit
set_option maxRecDepth 100000

theorem infoC : (Tryz.prog.info? 169).map (·.size) = some 32 := by kernel_rfl
theorem mul_limb {x y : Int} (hx0 : 0 ≤ x) (hx1 : x < 65536) (hy0 : 0 ≤ y) (hy1 : y < 65536) : 0 ≤ x * y ∧ x * y ≤ 4294836225 := by
  refine ⟨Int.mul_nonneg hx0 hy0, ?_⟩
  have h1 : x * y ≤ 65535 * y := Int.mul_le_mul_of_nonneg_right (by omega) hy0
  omega

set_option maxHeartbeats 4000000 in
theorem implTimes (a b : List Int) (w : World) (ha : a.length = 16) (hb : b.length = 16) (la : Lm a) (lb : Lm b) :
    Calls Tryz.prog 124 #[.agg (I64 a).toArray, .agg (I64 b).toArray] w fun e w' => ∃ t, e = .returned (.agg (I64 t).toArray) ∧ Tq a b t 16 0 ∧ Below w.heap.size w w' := by
  obtain ⟨A, hA⟩ : ∃ A, A = (I64 a).toArray := ⟨_, rfl⟩
  obtain ⟨B, hB⟩ : ∃ B, B = (I64 b).toArray := ⟨_, rfl⟩
  rw [← hA, ← hB]
  obtain ⟨W, hW⟩ : ∃ W, W = (((w.alloc (.cells A 65)).alloc (.cells B 65)).alloc (.cells #[.int .i64 0, .int .i64 0, .int .i64 0, .int .i64 0, .int .i64 0, .int .i64 0, .int .i64 0, .int .i64 0, .int .i64 0, .int .i64 0, .int .i64 0, .int .i64 0, .int .i64 0, .int .i64 0, .int .i64 0, .int .i64 0, .int .i64 0, .int .i64 0, .int .i64 0, .int .i64 0, .int .i64 0, .int .i64 0, .int .i64 0, .int .i64 0, .int .i64 0, .int .i64 0, .int .i64 0, .int .i64 0, .int .i64 0, .int .i64 0, .int .i64 0, .int .i64 0] 169)).alloc (.cells #[.int .i64 0, .int .i64 0, .int .i64 0, .int .i64 0, .int .i64 0, .int .i64 0, .int .i64 0, .int .i64 0, .int .i64 0, .int .i64 0, .int .i64 0, .int .i64 0, .int .i64 0, .int .i64 0, .int .i64 0, .int .i64 0, .int .i64 0, .int .i64 0, .int .i64 0, .int .i64 0, .int .i64 0, .int .i64 0, .int .i64 0, .int .i64 0, .int .i64 0, .int .i64 0, .int .i64 0, .int .i64 0, .int .i64 0, .int .i64 0, .int .i64 0, .int .i64 0] 169) := ⟨_, rfl⟩
  have h0 : Arr W w.heap.size 65 (I64 a) := by rw [hW, hA]; exact (((Arr.new w (I64 a) _).alloc _).alloc _).alloc _
  have h1 : Arr W (w.heap.size + 1) 65 (I64 b) := by
    rw [hW, hB]
    have := ((Arr.new (w.alloc (.cells A 65)) (I64 b) 65).alloc (.cells (I64 Z32).toArray 169)).alloc (.cells (I64 Z32).toArray 169)
    rw [World.size_alloc] at this
    exact this
  have h2 : Arr W (w.heap.size + 2) 169 (I64 Z32) := by
    rw [hW]
    have := (Arr.new ((w.alloc (.cells A 65)).alloc (.cells B 65)) (I64 Z32) 169).alloc (.cells (I64 Z32).toArray 169)
    rw [World.size_alloc, World.size_alloc] at this
    exact this
  have h3 : Arr W (w.heap.size + 3) 169 (I64 Z32) := by
    rw [hW]
    have := Arr.new (((w.alloc (.cells A 65)).alloc (.cells B 65)).alloc (.cells (I64 Z32).toArray 169)) (I64 Z32) 169
    rw [World.size_alloc, World.size_alloc, World.size_alloc] at this
    exact this
  have hBl : Below w.heap.size w W := by rw [hW]; exact ((((Below.refl _ _).alloc (Nat.le_refl _) _).alloc (by simp) _).alloc (by simp; omega) _).alloc (by simp; omega) _
  have hia : (Tryz.prog.info? 65).map (·.size) = some (I64 a).toArray.size := by simpa [ha] using infoL
  have hib : (Tryz.prog.info? 65).map (·.size) = some (I64 b).toArray.size := by simpa [hb] using infoL
  have h0' := hW ▸ h0
  clear hA hB
  go_enter Tryz.func124, Tryz.ntmps124
  go_wp2_with (refine wpList_load_row rfl 65 _ rfl w.heap.size rfl 65 (I64 a).toArray (0, 0) _ h0' Tryz.underlying65 rfl hia ?_)
  rw [← hW]
  clear hW h0'
  go_loopw [11] (fun i wr => ∃ (k : Nat) (t : List Int), k ≤ 16 ∧ i = .int .i64 k ∧ Tq a b t k 0 ∧ Arr wr (w.heap.size + 1) 65 (I64 b) ∧ Arr wr (w.heap.size + 2) 169 (I64 Z32) ∧ Arr wr (w.heap.size + 3) 169 (I64 t) ∧ Below w.heap.size w wr) (fun i _ => 16 - (intOf i).toNat)
  case atStart => exact ⟨0, Z32, by omega, rfl, Tq.zero a b, h1, h2, h3, hBl⟩
  case round =>
    clear h0 h1 h2 h3 hBl
    obtain ⟨i, t, hi, rfl, TP, h1, h2, h3, hBl⟩ := hrel
    by_cases hi16 : i < 16
    · have hi' : (i : Int) < 16 := by omega
      have ix := fun w => index_arr Tryz.underlying65 Tryz.underlying3 infoL1 a ha i hi16 w
      obtain ⟨x, hx⟩ : ∃ x, x = a.getD i 0 := ⟨_, rfl⟩
      rw [← hx] at ix
      have bx := gD_lm la i
      rw [← hx] at bx
      have HX : Hid _ := hx
      clear hx
      go_wp2_with (refine wpList_load_row rfl 65 _ rfl (w.heap.size + 1) rfl 65 (I64 b).toArray (0, 0) _ h1 Tryz.underlying65 rfl hib ?_)
      clear ix
      go_loopw [16] (fun c wr => ∃ (k : Nat) (t : List Int), k ≤ 16 ∧ c = .int .i64 k ∧ Tq a b t i k ∧ Arr wr (w.heap.size + 1) 65 (I64 b) ∧ Arr wr (w.heap.size + 2) 169 (I64 Z32) ∧ Arr wr (w.heap.size + 3) 169 (I64 t) ∧ Below w.heap.size w wr) (fun c _ => 16 - (intOf c).toNat)
      case atStart => exact ⟨0, t, by omega, rfl, TP, h1, h2, h3, hBl⟩
      case round =>
        clear h1 h2 h3 hBl TP t
        obtain ⟨k, t, hk, rfl, TP, h1, h2, h3, hBl⟩ := hrel
        by_cases hk16 : k < 16
        · have iy := fun w => index_arr Tryz.underlying65 Tryz.underlying3 infoL1 b hb k hk16 w
          obtain ⟨y, hy⟩ : ∃ y, y = b.getD k 0 := ⟨_, rfl⟩
          rw [← hy] at iy
          obtain ⟨z, hz⟩ : ∃ z, z = t.getD (i + k) 0 := ⟨_, rfl⟩
          have by' := gD_lm lb k
          have bz := TP.get (i + k)
          rw [← hy] at by'
          rw [← hz] at bz
          have htl := TP.len
          have cz : wr.cell? ⟨w.heap.size + 3, i + k, none⟩ = some (.int .i64 z) := by rw [hz]; exact h3.i64 (i + k) (by omega)
          have hpb := mul_limb bx.1 bx.2 by'.1 by'.2
          have TP2 := TP.step hi16 (by omega) hk16 (p := x * y) (by rw [HX.out, hy]) hpb.1 hpb.2
          rw [← hz] at TP2
          obtain ⟨p, hp⟩ : ∃ p, p = x * y := ⟨_, rfl⟩
          rw [← hp] at TP2 hpb
          have s0 : IntKind.i64.wrap (x * y) = p := by rw [← hp, IntKind.wrap_i64]; omega
          have s1 : IntKind.i64.wrap (z + p) = z + p := by rw [IntKind.wrap_i64]; omega
          have s2 : IntKind.i64.wrap ((i : Int) + (k : Int)) = (i : Int) + (k : Int) := by rw [IntKind.wrap_i64]; omega
          have s3 : ((i : Int) + (k : Int)).toNat = i + k := by omega
          have s4 : (i : Int) + (k : Int) < 32 := by omega
          have s5 : (0 : Int) ≤ (i : Int) + (k : Int) := by omega
          have hk' : (k : Int) < 16 := by omega
          have hfz := h3.frozen (i + k)
          have e : (I64 t).set (i + k) (.int .i64 (z + p)) = I64 (t.set (i + k) (z + p)) := by simp
          have h3' := h3.set (i + k) (.int .i64 (z + p))
          rw [e] at h3'
          have h1' := h1.other ⟨w.heap.size + 3, i + k, none⟩ (.int .i64 (z + p)) (by simp)
          have h2' := h2.other ⟨w.heap.size + 3, i + k, none⟩ (.int .i64 (z + p)) (by simp)
          have hb' := hBl.setCell (p := ⟨w.heap.size + 3, i + k, none⟩) (by simp) (.int .i64 (z + p))
          have H1 : Hid _ := h1'
          have H2 : Hid _ := h2'
          have H3 : Hid _ := h3'
          have HB : Hid _ := hb'
          have HT : Hid _ := TP2
          clear h1' h2' h3' hb' e h1 h2 h3 hBl hy hz TP TP2 hp htl
          go_wp2
          go_roundw
          case rel => exact ⟨k + 1, _, by omega, by go_num, HT.out, H1.out, H2.out, H3.out, HB.out⟩
          case measure => simp [intOf]; omega
        · obtain rfl : k = 16 := by omega
          have TP2 := TP.row hb (by omega)
          clear TP
          go_wp2
          go_roundw
          case rel => exact ⟨i + 1, t, by omega, by go_num, TP2, h1, h2, h3, hBl⟩
          case measure => simp [intOf]; omega
    · obtain rfl : i = 16 := by omega
      have htl := TP.len
      have hit : (Tryz.prog.info? 169).map (·.size) = some (I64 t).toArray.size := by simpa [htl] using infoC
      have hr := h2.row (I64 t)
      have hbl := setRow_below hBl (w.heap.size + 2) (I64 t).toArray (by omega)
      have HT : Hid _ := TP
      clear TP
      go_wp2_with (first
        | (refine wpList_load_row rfl 169 _ rfl (w.heap.size + 3) rfl 169 (I64 t).toArray (0, 0) _ h3 Tryz.underlying169 rfl hit ?_)
        | (refine wpList_store_row rfl 169 _ _ rfl (w.heap.size + 2) (I64 t).toArray rfl rfl 169 _ h2 hit (by simp [htl]) (by simp [Value.oneCell']) ?_))
      exact bodyPost_ret (results_cell_row rfl _ _ (w.heap.size + 2) 169 (I64 t).toArray (0, 0) _ rfl hr Tryz.underlying169 rfl hit) rfl ⟨t, rfl, HT.out, hbl⟩
end Go.Proofs.YtihoaakbkffejaaGreatDoor

/-
  What is proved here: contracts of the program's methods plus, minus and lessOnce on limbs.
-/
import Derived.Test.YtihoaakbkffejaaDoorZUl
import Derived.Test.YtihoaakbkffejaaDoorZArr
namespace Go.Proofs.YtihoaakbkffejaaDoor
open Go.RowKit
set_option maxRecDepth 100000

theorem infoL1 : (Tryd.prog.info? 3).map (·.size) = some 1 := by kernel_rfl
theorem zip_bd {f : Int → Int → Int} (hf : ∀ x y, 0 ≤ x → x < 65536 → 0 ≤ y → y < 65536 → -4611686018427387904 ≤ f x y ∧ f x y < 4611686018427387904) {a b : List Int} (ha : Lm a) (hb : Lm b) : ∀ z ∈ List.zipWith f a b, -4611686018427387904 ≤ z ∧ z < 4611686018427387904 := by
  intro z hz
  obtain ⟨i, hi⟩ := List.mem_iff_getElem?.1 hz
  rw [List.getElem?_zipWith] at hi
  split at hi
  · rename_i p q h1 h2
    have h3 := ha _ (List.mem_of_getElem? h1)
    have h4 := hb _ (List.mem_of_getElem? h2)
    simp only [Option.some.injEq] at hi
    rw [← hi]
    exact hf p q h3.1 h3.2 h4.1 h4.2
  · cases hi
theorem zip_at (f : Int → Int → Int) {a b : List Int} (ha : a.length = 16) (hb : b.length = 16) (k : Nat) (hk : k < 16) : (List.zipWith f a b).getD k 0 = f (a.getD k 0) (b.getD k 0) := by
  simp [List.getD, List.getElem?_zipWith, show k < a.length by omega, show k < b.length by omega]

set_option maxHeartbeats 2000000 in
theorem implPlus (a b : List Int) (w : World) (ha : a.length = 16) (hb : b.length = 16) (la : Lm a) (lb : Lm b) :
    Calls Tryd.prog 89 #[.agg (I64 a).toArray, .agg (I64 b).toArray] w fun e w' => e = .returned (.agg (I64 (crd (List.zipWith (fun x y => x + y) a b))).toArray) ∧ Below w.heap.size w w' := by
  obtain ⟨A, hA⟩ : ∃ A, A = (I64 a).toArray := ⟨_, rfl⟩
  rw [← hA]
  obtain ⟨zs, hzs⟩ : ∃ zs, zs = List.zipWith (fun x y => x + y) a b := ⟨_, rfl⟩
  have hzl : zs.length = 16 := by rw [hzs]; simp [ha, hb]
  have hzc : Cb zs := by rw [hzs]; exact cb_of (zip_bd (fun x y _ _ _ _ => by omega) la lb)
  have hzx : ∀ k, k < 16 → zs.getD k 0 = a.getD k 0 + b.getD k 0 := by
    intro k hk
    rw [hzs]
    exact zip_at _ ha hb k hk
  rw [← hzs]
  have HZX : Hid _ := hzx
  have HZC : Hid (∀ Z, Calls Tryd.prog 78 #[.agg (I64 zs).toArray] Z fun e w' => e = .returned (.agg (I64 (crd zs)).toArray) ∧ Below Z.heap.size Z w') := by
    unfold Hid; intro Z; exact implCarried zs Z hzl hzc
  clear hzs hzx hzc
  obtain ⟨W, hW⟩ : ∃ W, W = ((w.alloc (.cells A 81)).alloc (.cells (I64 b).toArray 81)).alloc (.cells #[.int .i64 0, .int .i64 0, .int .i64 0, .int .i64 0, .int .i64 0, .int .i64 0, .int .i64 0, .int .i64 0, .int .i64 0, .int .i64 0, .int .i64 0, .int .i64 0, .int .i64 0, .int .i64 0, .int .i64 0, .int .i64 0] 81) := ⟨_, rfl⟩
  have h0 : Arr W w.heap.size 81 (I64 (zs.take 0 ++ a.drop 0)) := by rw [hW, hA]; exact ((Arr.new w (I64 a) _).alloc _).alloc _
  have h1 : Arr W (w.heap.size + 1) 81 (I64 b) := by
    rw [hW]
    have := (Arr.new (w.alloc (.cells A 81)) (I64 b) 81).alloc (.cells (I64 Z16).toArray 81)
    rw [World.size_alloc] at this
    exact this
  have h2 : Arr W (w.heap.size + 2) 81 (I64 Z16) := by
    rw [hW]
    have := Arr.new ((w.alloc (.cells A 81)).alloc (.cells (I64 b).toArray 81)) (I64 Z16) 81
    rw [World.size_alloc, World.size_alloc] at this
    exact this
  have hBl : Below w.heap.size w W := by rw [hW]; exact (((Below.refl _ _).alloc (Nat.le_refl _) _).alloc (by simp) _).alloc (by simp; omega) _
  obtain ⟨B, hB⟩ : ∃ B, B = (I64 b).toArray := ⟨_, rfl⟩
  rw [← hB] at hW ⊢
  have HBB : Hid _ := hB
  have h1' := hW ▸ h1
  clear hA hB
  go_enter Tryd.func89, Tryd.ntmps89
  go_wp2_with (refine wpList_load_row rfl 81 _ rfl (w.heap.size + 1) rfl 81 (I64 b).toArray (0, 0) _ h1' Tryd.underlying81 rfl (by simpa [hb] using infoL) ?_)
  rw [← hW]
  clear hW h1'
  go_loopw [8] (fun i wr => ∃ k : Nat, k ≤ 16 ∧ i = .int .i64 k ∧ Arr wr w.heap.size 81 (I64 (zs.take k ++ a.drop k)) ∧ Arr wr (w.heap.size + 2) 81 (I64 Z16) ∧ Below w.heap.size w wr) (fun i _ => 16 - (intOf i).toNat)
  case atStart => exact ⟨0, by omega, rfl, h0, h2, hBl⟩
  case round =>
    clear h0 h1 h2 hBl
    obtain ⟨k, hk, rfl, h0, h2, hBl⟩ := hrel
    have hfl : (zs.take k).length = k := by simp; omega
    by_cases hlt : k < 16
    · obtain ⟨x, hx⟩ : ∃ x, x = a.getD k 0 := ⟨_, rfl⟩
      obtain ⟨y, hy⟩ : ∃ y, y = b.getD k 0 := ⟨_, rfl⟩
      have ix := fun w => index_arr Tryd.underlying81 Tryd.underlying3 infoL1 b hb k hlt w
      rw [← hy] at ix
      have cx : wr.cell? ⟨w.heap.size, k, none⟩ = some (.int .i64 x) := by
        rw [h0.i64 k (by rw [len_app hfl (by omega)]; omega), get_app hfl, hx]
      have bx := gD_lm la k
      have by' := gD_lm lb k
      rw [← hx] at bx
      rw [← hy] at by'
      have hz := HZX.out k hlt
      rw [← hx, ← hy] at hz
      have hts := take_app zs k (by omega)
      rw [hz] at hts
      have hfz := h0.frozen k
      have h0' := h0.set k (.int .i64 (x + y))
      rw [set_app hfl (show k < a.length by omega), ← hts] at h0'
      have h2' := h2.other ⟨w.heap.size, k, none⟩ (.int .i64 (x + y)) (by simp)
      have hb' := hBl.setCell (p := ⟨w.heap.size, k, none⟩) (Nat.le_refl _) (.int .i64 (x + y))
      have s1 : IntKind.i64.wrap (x + y) = x + y := by rw [IntKind.wrap_i64]; omega
      have hk16 : (k : Int) < 16 := by omega
      have hk0 : (0 : Int) ≤ (k : Int) := by omega
      have H0 : Hid _ := h0'
      have H2 : Hid _ := h2'
      have HB : Hid _ := hb'
      clear h0' h2' hb' h0 h2 hBl hx hy hz hts
      go_wp2
      go_roundw
      case rel => exact ⟨k + 1, by omega, by go_num, H0.out, H2.out, HB.out⟩
      case measure => simp [intOf]; omega
    · obtain rfl : k = 16 := by omega
      rw [List.take_of_length_le (by omega), List.drop_eq_nil_of_le (by omega), List.append_nil] at h0
      clear hfl
      go_wp2_with (refine wpList_load_row rfl 81 _ rfl w.heap.size rfl 81 (I64 zs).toArray (0, 0) _ h0 Tryd.underlying81 rfl (by simpa [hzl] using infoL) ?_)
      refine (HZC.out _).mono ?_
      rintro e w1 ⟨rfl, hb1⟩
      have h21 := h2.kept hb1
      have hB1 := hBl.trans (hb1.mono hBl.size)
      have hRl := crd_len hzl
      obtain ⟨R, hR⟩ : ∃ R, R = crd zs := ⟨_, rfl⟩
      rw [← hR] at hRl ⊢
      have HR : Hid _ := hR
      have h22 := h21.row (I64 R)
      have hb2 := setRow_below hB1 (w.heap.size + 2) (I64 R).toArray (by omega)
      clear hR h0 h2 hBl hb1 HZC
      go_wp2_with (refine wpList_store_row rfl 81 _ _ rfl (w.heap.size + 2) (I64 R).toArray rfl rfl 81 _ h21 (by simpa [hRl] using infoL) (by simp [hRl]) (by simp [Value.oneCell']) ?_)
      exact bodyPost_ret (results_cell_row rfl _ _ (w.heap.size + 2) 81 (I64 R).toArray (0, 0) _ rfl h22 Tryd.underlying81 rfl (by simpa [hRl] using infoL)) rfl ⟨by rw [HR.out], hb2⟩

set_option maxHeartbeats 2000000 in
theorem implMinus (a b : List Int) (w : World) (ha : a.length = 16) (hb : b.length = 16) (la : Lm a) (lb : Lm b) :
    Calls Tryd.prog 83 #[.agg (I64 a).toArray, .agg (I64 b).toArray] w fun e w' => e = .returned (.agg (I64 (crd (List.zipWith (fun x y => x - y) a b))).toArray) ∧ Below w.heap.size w w' := by
  obtain ⟨A, hA⟩ : ∃ A, A = (I64 a).toArray := ⟨_, rfl⟩
  rw [← hA]
  obtain ⟨zs, hzs⟩ : ∃ zs, zs = List.zipWith (fun x y => x - y) a b := ⟨_, rfl⟩
  have hzl : zs.length = 16 := by rw [hzs]; simp [ha, hb]
  have hzc : Cb zs := by rw [hzs]; exact cb_of (zip_bd (fun x y _ _ _ _ => by omega) la lb)
  have hzx : ∀ k, k < 16 → zs.getD k 0 = a.getD k 0 - b.getD k 0 := by
    intro k hk
    rw [hzs]
    exact zip_at _ ha hb k hk
  rw [← hzs]
  have HZX : Hid _ := hzx
  have HZC : Hid (∀ Z, Calls Tryd.prog 78 #[.agg (I64 zs).toArray] Z fun e w' => e = .returned (.agg (I64 (crd zs)).toArray) ∧ Below Z.heap.size Z w') := by
    unfold Hid; intro Z; exact implCarried zs Z hzl hzc
  clear hzs hzx hzc
  obtain ⟨W, hW⟩ : ∃ W, W = ((w.alloc (.cells A 81)).alloc (.cells (I64 b).toArray 81)).alloc (.cells #[.int .i64 0, .int .i64 0, .int .i64 0, .int .i64 0, .int .i64 0, .int .i64 0, .int .i64 0, .int .i64 0, .int .i64 0, .int .i64 0, .int .i64 0, .int .i64 0, .int .i64 0, .int .i64 0, .int .i64 0, .int .i64 0] 81) := ⟨_, rfl⟩
  have h0 : Arr W w.heap.size 81 (I64 (zs.take 0 ++ a.drop 0)) := by rw [hW, hA]; exact ((Arr.new w (I64 a) _).alloc _).alloc _
  have h1 : Arr W (w.heap.size + 1) 81 (I64 b) := by
    rw [hW]
    have := (Arr.new (w.alloc (.cells A 81)) (I64 b) 81).alloc (.cells (I64 Z16).toArray 81)
    rw [World.size_alloc] at this
    exact this
  have h2 : Arr W (w.heap.size + 2) 81 (I64 Z16) := by
    rw [hW]
    have := Arr.new ((w.alloc (.cells A 81)).alloc (.cells (I64 b).toArray 81)) (I64 Z16) 81
    rw [World.size_alloc, World.size_alloc] at this
    exact this
  have hBl : Below w.heap.size w W := by rw [hW]; exact (((Below.refl _ _).alloc (Nat.le_refl _) _).alloc (by simp) _).alloc (by simp; omega) _
  obtain ⟨B, hB⟩ : ∃ B, B = (I64 b).toArray := ⟨_, rfl⟩
  rw [← hB] at hW ⊢
  have HBB : Hid _ := hB
  have h1' := hW ▸ h1
  clear hA hB
  go_enter Tryd.func83, Tryd.ntmps83
  go_wp2_with (refine wpList_load_row rfl 81 _ rfl (w.heap.size + 1) rfl 81 (I64 b).toArray (0, 0) _ h1' Tryd.underlying81 rfl (by simpa [hb] using infoL) ?_)
  rw [← hW]
  clear hW h1'
  go_loopw [8] (fun i wr => ∃ k : Nat, k ≤ 16 ∧ i = .int .i64 k ∧ Arr wr w.heap.size 81 (I64 (zs.take k ++ a.drop k)) ∧ Arr wr (w.heap.size + 2) 81 (I64 Z16) ∧ Below w.heap.size w wr) (fun i _ => 16 - (intOf i).toNat)
  case atStart => exact ⟨0, by omega, rfl, h0, h2, hBl⟩
  case round =>
    clear h0 h1 h2 hBl
    obtain ⟨k, hk, rfl, h0, h2, hBl⟩ := hrel
    have hfl : (zs.take k).length = k := by simp; omega
    by_cases hlt : k < 16
    · obtain ⟨x, hx⟩ : ∃ x, x = a.getD k 0 := ⟨_, rfl⟩
      obtain ⟨y, hy⟩ : ∃ y, y = b.getD k 0 := ⟨_, rfl⟩
      have ix := fun w => index_arr Tryd.underlying81 Tryd.underlying3 infoL1 b hb k hlt w
      rw [← hy] at ix
      have cx : wr.cell? ⟨w.heap.size, k, none⟩ = some (.int .i64 x) := by
        rw [h0.i64 k (by rw [len_app hfl (by omega)]; omega), get_app hfl, hx]
      have bx := gD_lm la k
      have by' := gD_lm lb k
      rw [← hx] at bx
      rw [← hy] at by'
      have hz := HZX.out k hlt
      rw [← hx, ← hy] at hz
      have hts := take_app zs k (by omega)
      rw [hz] at hts
      have hfz := h0.frozen k
      have h0' := h0.set k (.int .i64 (x - y))
      rw [set_app hfl (show k < a.length by omega), ← hts] at h0'
      have h2' := h2.other ⟨w.heap.size, k, none⟩ (.int .i64 (x - y)) (by simp)
      have hb' := hBl.setCell (p := ⟨w.heap.size, k, none⟩) (Nat.le_refl _) (.int .i64 (x - y))
      have s1 : IntKind.i64.wrap (x - y) = x - y := by rw [IntKind.wrap_i64]; omega
      have hk16 : (k : Int) < 16 := by omega
      have hk0 : (0 : Int) ≤ (k : Int) := by omega
      have H0 : Hid _ := h0'
      have H2 : Hid _ := h2'
      have HB : Hid _ := hb'
      clear h0' h2' hb' h0 h2 hBl hx hy hz hts
      go_wp2
      go_roundw
      case rel => exact ⟨k + 1, by omega, by go_num, H0.out, H2.out, HB.out⟩
      case measure => simp [intOf]; omega
    · obtain rfl : k = 16 := by omega
      rw [List.take_of_length_le (by omega), List.drop_eq_nil_of_le (by omega), List.append_nil] at h0
      clear hfl
      go_wp2_with (refine wpList_load_row rfl 81 _ rfl w.heap.size rfl 81 (I64 zs).toArray (0, 0) _ h0 Tryd.underlying81 rfl (by simpa [hzl] using infoL) ?_)
      refine (HZC.out _).mono ?_
      rintro e w1 ⟨rfl, hb1⟩
      have h21 := h2.kept hb1
      have hB1 := hBl.trans (hb1.mono hBl.size)
      have hRl := crd_len hzl
      obtain ⟨R, hR⟩ : ∃ R, R = crd zs := ⟨_, rfl⟩
      rw [← hR] at hRl ⊢
      have HR : Hid _ := hR
      have h22 := h21.row (I64 R)
      have hb2 := setRow_below hB1 (w.heap.size + 2) (I64 R).toArray (by omega)
      clear hR h0 h2 hBl hb1 HZC
      go_wp2_with (refine wpList_store_row rfl 81 _ _ rfl (w.heap.size + 2) (I64 R).toArray rfl rfl 81 _ h21 (by simpa [hRl] using infoL) (by simp [hRl]) (by simp [Value.oneCell']) ?_)
      exact bodyPost_ret (results_cell_row rfl _ _ (w.heap.size + 2) 81 (I64 R).toArray (0, 0) _ rfl h22 Tryd.underlying81 rfl (by simpa [hRl] using infoL)) rfl ⟨by rw [HR.out], hb2⟩

theorem plus_lim {a b : List Int} (ha : a.length = 16) (hb : b.length = 16) (h0 : 0 ≤ val a + val b) (h1 : val a + val b < 115792089237316195423570985008687907853269984665640564039457584007913129639936) : crd (List.zipWith (fun x y => x + y) a b) = lim 16 (val a + val b) := by
  have e := zipAdd_val a b (by omega)
  rw [crd_lim (by simp [ha, hb]) (by rw [e]; exact h0) (by rw [e]; exact h1), e]
theorem minus_lim {a b : List Int} (ha : a.length = 16) (hb : b.length = 16) (h0 : 0 ≤ val a - val b) (h1 : val a - val b < 115792089237316195423570985008687907853269984665640564039457584007913129639936) : crd (List.zipWith (fun x y => x - y) a b) = lim 16 (val a - val b) := by
  have e := zipSub_val a b (by omega)
  rw [crd_lim (by simp [ha, hb]) (by rw [e]; exact h0) (by rw [e]; exact h1), e]
theorem val256 {a : List Int} (ha : a.length = 16) (la : Lm a) : 0 ≤ val a ∧ val a < 115792089237316195423570985008687907853269984665640564039457584007913129639936 := by
  have h1 := val_lt la
  rw [ha, p256] at h1
  exact ⟨val_nonneg (fun x hx => (la x hx).1), h1⟩

/-- Limbs that are read and the result's cell, through whatever keeps what is there. -/
structure L3 (w W : World) (a b : List Int) : Prop where
  fr : Below w.heap.size w W
  pa : Arr W w.heap.size 81 (I64 a)
  pb : Arr W (w.heap.size + 1) 81 (I64 b)
  pr : Arr W (w.heap.size + 2) 81 (I64 Z16)
theorem L3.go {w A B : World} {a b : List Int} (h : L3 w A a b) (hb : Below A.heap.size A B) : L3 w B a b := ⟨h.fr.trans (hb.mono h.fr.size), h.pa.kept hb, h.pb.kept hb, h.pr.kept hb⟩
theorem L3.new (w : World) (a b : List Int) : L3 w (((w.alloc (.cells (I64 a).toArray 81)).alloc (.cells (I64 b).toArray 81)).alloc (.cells (I64 Z16).toArray 81)) a b := by
  refine ⟨(((Below.refl _ _).alloc (Nat.le_refl _) _).alloc (by simp) _).alloc (by simp; omega) _, ((Arr.new w (I64 a) _).alloc _).alloc _, ?_, ?_⟩
  · have := (Arr.new (w.alloc (.cells (I64 a).toArray 81)) (I64 b) 81).alloc (.cells (I64 Z16).toArray 81)
    rw [World.size_alloc] at this
    exact this
  · have := Arr.new ((w.alloc (.cells (I64 a).toArray 81)).alloc (.cells (I64 b).toArray 81)) (I64 Z16) 81
    rw [World.size_alloc, World.size_alloc] at this
    exact this

set_option maxHeartbeats 2000000 in
theorem implLess (a b : List Int) (w : World) (ha : a.length = 16) (hb : b.length = 16) (la : Lm a) (lb : Lm b) :
    Calls Tryd.prog 88 #[.agg (I64 a).toArray, .agg (I64 b).toArray] w fun e w' => e = .returned (.agg (I64 (lim 16 (if val a < val b then val a else val a - val b))).toArray) ∧ Below w.heap.size w w' := by
  obtain ⟨R, hR⟩ : ∃ R, R = lim 16 (if val a < val b then val a else val a - val b) := ⟨_, rfl⟩
  have hRl : R.length = 16 := by rw [hR]; exact lim_len _ _
  rw [← hR]
  obtain ⟨d, hd⟩ : ∃ d, d = decide (val a < val b) := ⟨_, rfl⟩
  have v1 := val256 ha la
  have v2 := val256 hb lb
  have HY : Hid (d = true → R = a) := by
    unfold Hid; intro h
    have h' : val a < val b := by rw [hd] at h; simpa using h
    have := lim_val a la
    rw [ha] at this
    rw [hR, if_pos h', this]
  have HN : Hid (d = false → ∀ Z, Calls Tryd.prog 83 #[.agg (I64 a).toArray, .agg (I64 b).toArray] Z fun e w' => e = .returned (.agg (I64 R).toArray) ∧ Below Z.heap.size Z w') := by
    unfold Hid; intro h Z
    have h' : ¬ val a < val b := by rw [hd] at h; simpa using h
    have := implMinus a b Z ha hb la lb
    rw [minus_lim ha hb (by omega) (by omega)] at this
    rw [hR, if_neg h']
    exact this
  have HB : Hid (∀ Z, Calls Tryd.prog 71 #[.agg (I64 a).toArray, .agg (I64 b).toArray] Z fun e w' => e = .returned (.bool d) ∧ Below Z.heap.size Z w') := by
    unfold Hid; intro Z; rw [hd]; exact implBelow a b Z ha hb la lb
  clear hd hR v1 v2
  obtain ⟨W, hW⟩ : ∃ W, W = ((w.alloc (.cells (I64 a).toArray 81)).alloc (.cells (I64 b).toArray 81)).alloc (.cells #[.int .i64 0, .int .i64 0, .int .i64 0, .int .i64 0, .int .i64 0, .int .i64 0, .int .i64 0, .int .i64 0, .int .i64 0, .int .i64 0, .int .i64 0, .int .i64 0, .int .i64 0, .int .i64 0, .int .i64 0, .int .i64 0] 81) := ⟨_, rfl⟩
  have EE : L3 w W a b := by rw [hW]; exact L3.new w a b
  obtain ⟨A, hA⟩ : ∃ A, A = (I64 a).toArray := ⟨_, rfl⟩
  obtain ⟨B, hB⟩ : ∃ B, B = (I64 b).toArray := ⟨_, rfl⟩
  rw [← hA, ← hB] at hW ⊢
  clear hA hB
  have hia : (Tryd.prog.info? 81).map (·.size) = some (I64 a).toArray.size := by simpa [ha] using infoL
  have hib : (Tryd.prog.info? 81).map (·.size) = some (I64 b).toArray.size := by simpa [hb] using infoL
  have E0 := hW ▸ EE
  go_enter Tryd.func88, Tryd.ntmps88
  go_wp2_with (first
    | (refine wpList_load_row rfl 81 _ rfl w.heap.size rfl 81 (I64 a).toArray (0, 0) _ E0.pa Tryd.underlying81 rfl hia ?_)
    | (refine wpList_load_row rfl 81 _ rfl (w.heap.size + 1) rfl 81 (I64 b).toArray (0, 0) _ E0.pb Tryd.underlying81 rfl hib ?_))
  rw [← hW]
  clear hW E0
  refine (HB.out _).mono ?_
  rintro e w1 ⟨rfl, hb1⟩
  replace EE := EE.go hb1
  clear hb1
  cases d with
  | true =>
    obtain rfl : R = a := HY.out rfl
    clear HY HN HB
    have hr := EE.pr.row (I64 R)
    have hbl := setRow_below EE.fr (w.heap.size + 2) (I64 R).toArray (by omega)
    go_wp2_with (first
      | (refine wpList_load_row rfl 81 _ rfl w.heap.size rfl 81 (I64 R).toArray (0, 0) _ EE.pa Tryd.underlying81 rfl hia ?_)
      | (refine wpList_store_row rfl 81 _ _ rfl (w.heap.size + 2) (I64 R).toArray rfl rfl 81 _ EE.pr hia (by simp [hRl]) (by simp [Value.oneCell']) ?_))
    exact bodyPost_ret (results_cell_row rfl _ _ (w.heap.size + 2) 81 (I64 R).toArray (0, 0) _ rfl hr Tryd.underlying81 rfl hia) rfl ⟨rfl, hbl⟩
  | false =>
    have hm := HN.out rfl
    have HM : Hid _ := hm
    clear HY HN HB hm
    go_wp2_with (first
      | (refine wpList_load_row rfl 81 _ rfl w.heap.size rfl 81 (I64 a).toArray (0, 0) _ EE.pa Tryd.underlying81 rfl hia ?_)
      | (refine wpList_load_row rfl 81 _ rfl (w.heap.size + 1) rfl 81 (I64 b).toArray (0, 0) _ EE.pb Tryd.underlying81 rfl hib ?_))
    refine (HM.out _).mono ?_
    rintro e w2 ⟨rfl, hb2⟩
    replace EE := EE.go hb2
    clear hb2 HM
    have hr := EE.pr.row (I64 R)
    have hbl := setRow_below EE.fr (w.heap.size + 2) (I64 R).toArray (by omega)
    have hiR : (Tryd.prog.info? 81).map (·.size) = some (I64 R).toArray.size := by simpa [hRl] using infoL
    go_wp2_with (refine wpList_store_row rfl 81 _ _ rfl (w.heap.size + 2) (I64 R).toArray rfl rfl 81 _ EE.pr hiR (by simp [hRl]) (by simp [Value.oneCell']) ?_)
    exact bodyPost_ret (results_cell_row rfl _ _ (w.heap.size + 2) 81 (I64 R).toArray (0, 0) _ rfl hr Tryd.underlying81 rfl hiR) rfl ⟨rfl, hbl⟩
end Go.Proofs.YtihoaakbkffejaaDoor

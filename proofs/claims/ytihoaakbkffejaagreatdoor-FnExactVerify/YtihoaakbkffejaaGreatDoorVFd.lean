/-
  What is proved here: the contract of the specification's l4add: the sum of two numbers of the; the contract of the specification's l4mul: the product of two numbers of; contracts of the specification's l4in, l4out, l4isOk and FeOk: a number of; contracts of the specification's l4isOk, FeOk and l4sub: whether a slice; plain facts on cells that are set one behind the other; the contract of the specification's l4sub: the difference of two numbers.
-/
import Derived.Test.YtihoaakbkffejaaGreatDoorVFq
import Derived.Deep.RegionHeld3
import Derived.Test.YtihoaakbkffejaaGreatDoorVFm
namespace Go.Proofs.YtihoaakbkffejaaGreatDoor
open Go.RowKit
set_option maxRecDepth 100000

theorem zipAdd_gp {a b : List Int} (ha : Lm a) (hb : Lm b) : Gp (List.zipWith (fun x y => x + y) a b) := by
 intro x hx
 obtain ⟨i, hi⟩ := List.mem_iff_getElem?.1 hx
 rw [List.getElem?_zipWith] at hi
 split at hi
 ·rename_i p q h1 h2
  have := ha _ (List.mem_of_getElem? h1)
  have := hb _ (List.mem_of_getElem? h2)
  simp only [Option.some.injEq] at hi
  omega
 ·cases hi

set_option maxHeartbeats 2000000 in
theorem specAdd16 (a b : List Int) (w : World) (ha : a.length = 16) (hb : b.length = 16) (la : Lm a) (lb : Lm b) :
  Calls Tryz.prog 116 #[.agg (I64 a).toArray, .agg (I64 b).toArray] w fun e w' => e = .returned (.agg (I64 (red (val a + val b))).toArray) ∧ Below w.heap.size w w' := by
 obtain ⟨A, hA⟩ : ∃ A, A = (I64 a).toArray := ⟨_, rfl⟩
 obtain ⟨B, hB⟩ : ∃ B, B = (I64 b).toArray := ⟨_, rfl⟩
 rw [← hA, ← hB]
 obtain ⟨zs, hzs⟩ : ∃ zs, zs = List.zipWith (fun x y => x + y) a b := ⟨_, rfl⟩
 have hzl : zs.length = 16 := by rw [hzs]; simp [ha, hb]
 have hzg : Gp zs := by rw [hzs]; exact zipAdd_gp la lb
 have hzv : val zs = val a + val b := by rw [hzs]; exact zipAdd_val a b (by omega)
 have hzx : ∀ k, k < 16 → zs.getD k 0 = a.getD k 0 + b.getD k 0 := by
  intro k hk
  rw [hzs]
  simp [List.getD, List.getElem?_zipWith, show k < a.length by omega, show k < b.length by omega]
 rw [← hzv]
 have HZX : Hid _ := hzx
 clear hzs hzx hzv
 obtain ⟨W, hW⟩ : ∃ W, W = ((w.alloc (.cells A 80)).alloc (.cells B 80)).alloc (.cells (I64 Z16).toArray 80) := ⟨_, rfl⟩
 have h0 : Arr W w.heap.size 80 (I64 (zs.take 0 ++ a.drop 0)) := by rw [hW, hA]; exact ((Arr.new w (I64 a) _).alloc _).alloc _
 have h1 : Arr W (w.heap.size + 1) 80 (I64 b) := by
  rw [hW, hB]
  have := (Arr.new (w.alloc (.cells A 80)) (I64 b) 80).alloc (.cells (I64 Z16).toArray 80)
  rw [World.size_alloc] at this
  exact this
 have h2 : Arr W (w.heap.size + 2) 80 (I64 Z16) := by
  rw [hW]
  have := Arr.new ((w.alloc (.cells A 80)).alloc (.cells B 80)) (I64 Z16) 80
  rw [World.size_alloc, World.size_alloc] at this
  exact this
 have hBl : Below w.heap.size w W := by rw [hW]; exact (((Below.refl _ _).alloc (Nat.le_refl _) _).alloc (by simp) _).alloc (by simp; omega) _
 clear hA hB
 go_enter Tryz.func116, Tryz.ntmps116
 go_wp2
 go_loopw [5] (fun i wr => ∃ k : Nat, k ≤ 16 ∧ i = .int .i64 k ∧ Arr wr w.heap.size 80 (I64 (zs.take k ++ a.drop k)) ∧ Arr wr (w.heap.size + 1) 80 (I64 b) ∧ Arr wr (w.heap.size + 2) 80 (I64 Z16) ∧ Below w.heap.size w wr) (fun i _ => 16 - (intOf i).toNat)
 case atStart => exact ⟨0, by omega, rfl, hW ▸ h0, hW ▸ h1, hW ▸ h2, hW ▸ hBl⟩
 case round =>
  clear h0 h1 h2 hBl hW
  obtain ⟨k, hk, rfl, h0, h1, h2, hBl⟩ := hrel
  have hfl : (zs.take k).length = k := by simp; omega
  by_cases hlt : k < 16
  ·obtain ⟨x, hx⟩ : ∃ x, x = a.getD k 0 := ⟨_, rfl⟩
   obtain ⟨y, hy⟩ : ∃ y, y = b.getD k 0 := ⟨_, rfl⟩
   have cx : wr.cell? ⟨w.heap.size, k, none⟩ = some (.int .i64 x) := by
    rw [h0.i64 k (by rw [len_app hfl (by omega)]; omega), get_app hfl, hx]
   have cy : wr.cell? ⟨w.heap.size + 1, k, none⟩ = some (.int .i64 y) := by rw [hy]; exact h1.i64 k (by omega)
   have bx := gD_lm la k
   have by' := gD_lm lb k
   rw [← hx] at bx
   rw [← hy] at by'
   have hz := HZX.out k hlt
   rw [← hx, ← hy] at hz
   have hts := take_app zs k (by omega)
   rw [hz] at hts
   have hfz := h0.frozen k
   have h0' := h0.set k (.int .i64 (x + y))
   rw [set_app hfl (show k < a.length by omega), ← hts] at h0'
   have h1' := h1.other ⟨w.heap.size, k, none⟩ (.int .i64 (x + y)) (by simp)
   have h2' := h2.other ⟨w.heap.size, k, none⟩ (.int .i64 (x + y)) (by simp)
   have hb' := hBl.setCell (p := ⟨w.heap.size, k, none⟩) (Nat.le_refl _) (.int .i64 (x + y))
   have s1 : IntKind.i64.wrap (x + y) = x + y := by rw [IntKind.wrap_i64]; omega
   have hk16 : (k : Int) < 16 := by omega
   have hk0 : (0 : Int) ≤ (k : Int) := by omega
   have H0 : Hid _ := h0'.drew
   have H1 : Hid _ := h1'.drew
   have H2 : Hid _ := h2'.drew
   have HB : Hid _ := hb'.drew
   clear h0' h1' h2' hb' h0 h1 h2 hBl hx hy hz hts
   go_wp2
   go_region
   clear cx cy hfz
   go_wp2
   go_roundw
   case rel => exact ⟨k + 1, by omega, by go_num, H0.out, H1.out, H2.out, HB.out⟩
   case measure => simp [intOf]; omega
  ·obtain rfl : k = 16 := by omega
   rw [List.take_of_length_le (by omega), List.drop_eq_nil_of_le (by omega), List.append_nil] at h0
   clear hfl h1
   go_wp2_with (refine wpList_load_row rfl 80 _ rfl w.heap.size rfl 80 (I64 zs).toArray (0, 0) _ h0 Tryz.underlying80 rfl (by simpa [hzl] using infoE) ?_)
   refine (specCarry zs _ hzl hzg).mono ?_
   rintro e w1 ⟨rfl, hb1⟩
   have h21 := h2.kept hb1
   have hB1 := hBl.trans (hb1.mono hBl.size)
   have hRl := red_len (val zs)
   obtain ⟨R, hR⟩ : ∃ R, R = red (val zs) := ⟨_, rfl⟩
   rw [← hR] at hRl ⊢
   have HR : Hid _ := hR
   have h22 := h21.row (I64 R)
   have hb2 := setRow_below hB1 (w.heap.size + 2) (I64 R).toArray (by omega)
   clear hR h0 h2 hBl hb1
   go_wp2_with (refine wpList_store_row rfl 80 _ _ rfl (w.heap.size + 2) (I64 R).toArray rfl rfl 80 _ h21 (by simpa [hRl] using infoE) (by simp [hRl]) (by simp [Value.oneCell']) ?_)
   exact bodyPost_ret (results_cell_row rfl _ _ (w.heap.size + 2) 80 (I64 R).toArray (0, 0) _ rfl h22 Tryz.underlying80 rfl (by simpa [hRl] using infoE)) rfl ⟨by rw [HR.out], hb2⟩
theorem mul_part {x y : Int} (hx0 : 0 ≤ x) (hx1 : x < 65536) (hy0 : 0 ≤ y) (hy1 : y < 65536) : 0 ≤ x * y ∧ x * y ≤ 4294836225 := by
 refine ⟨Int.mul_nonneg hx0 hy0, ?_⟩
 have h1 : x * y ≤ 65535 * y := Int.mul_le_mul_of_nonneg_right (by omega) hy0
 omega
theorem set_mid {f r : List Int} {k : Nat} (hf : f.length = k) (x v : Int) : (I64 (f ++ [x] ++ r)).set k (.int .i64 v) = I64 (f ++ [v] ++ r) := by
 subst hf
 simp [List.set_append_right]
structure Tp (a b t : List Int) (i k : Nat) : Prop where
 len : t.length = 31
 vl : val t = prodAt a b i k
 le : ∀ x ∈ t, 0 ≤ x ∧ x ≤ (16 * (i : Int) + (k : Int)) * 4294836225
theorem Tp.get {a b t : List Int} {i k : Nat} (h : Tp a b t i k) (j : Nat) : 0 ≤ t.getD j 0 ∧ t.getD j 0 ≤ (16 * (i : Int) + (k : Int)) * 4294836225 := by
 by_cases hj : j < t.length
 ·have : t.getD j 0 ∈ t := by rw [List.getD_eq_getElem?_getD, List.getElem?_eq_getElem hj]; exact List.getElem_mem _
  exact h.le _ this
 ·rw [List.getD_eq_getElem?_getD, List.getElem?_eq_none (by omega)]; simp; omega
theorem Tp.step {a b t : List Int} {i k : Nat} (h : Tp a b t i k) (hi : i < 16) (hk : k < b.length) (hk16 : k < 16) {p : Int} (hp : p = a.getD i 0 * b.getD k 0) (hp0 : 0 ≤ p) (hp1 : p ≤ 4294836225) : Tp a b (t.set (i + k) (t.getD (i + k) 0 + p)) i (k + 1) := by
 have hl := h.len
 have hg := h.get (i + k)
 refine ⟨by simp [hl], ?_, ?_⟩
 ·rw [val_set t (i + k) (by omega), h.vl, prodAt_step a b i k hk, hp]
  congr 2
  omega
 ·intro x hx
  rcases List.mem_or_eq_of_mem_set hx with h1 | h1
  ·have := h.le x h1
   simp only [Int.natCast_add, Int.natCast_one]
   omega
  ·subst h1
   simp only [Int.natCast_add, Int.natCast_one]
   omega
theorem Tp.row {a b t : List Int} {i : Nat} (h : Tp a b t i 16) (hb : b.length = 16) (hi : i < a.length) : Tp a b t (i + 1) 0 := by
 refine ⟨h.len, ?_, fun x hx => ?_⟩
 ·rw [h.vl, ← prodAt_row a b i hi, hb]
 ·have := h.le x hx
  simp only [Int.natCast_add, Int.natCast_one] at this ⊢
  omega

theorem zip38_val : ∀ (a b : List Int), a.length = b.length → val (List.zipWith (fun x y => x + 38 * y) a b) = val a + 38 * val b
 | [], [], _ => by simp [val]
 | x :: a, y :: b, h => by
  have := zip38_val a b (by simpa using h)
  simp only [List.zipWith_cons_cons, val, this]
  omega
 | [], _ :: _, h => by simp at h
 | _ :: _, [], h => by simp at h
def fo16 (t : List Int) : List Int := List.zipWith (fun x y => x + 38 * y) (t.take 16) (t.drop 16 ++ [0])
theorem fo16_len {t : List Int} (h : t.length = 31) : (fo16 t).length = 16 := by simp [fo16, h]
theorem fo16_get {t : List Int} (h : t.length = 31) (j : Nat) (hj : j < 16) : (fo16 t).getD j 0 = t.getD j 0 + (if j < 15 then 38 * t.getD (j + 16) 0 else 0) := by
 unfold fo16
 have e1 : (t.take 16)[j]? = some (t.getD j 0) := by
  rw [List.getElem?_take]
  simp [hj, show j < t.length by omega]
 have e2 : (t.drop 16 ++ [0])[j]? = some (if j < 15 then t.getD (j + 16) 0 else 0) := by
  by_cases h15 : j < 15
  ·rw [List.getElem?_append_left (by simp; omega), List.getElem?_drop]
   simp [h15, Nat.add_comm 16 j, show j + 16 < t.length by omega]
  ·have : j = 15 := by omega
   subst this
   rw [List.getElem?_append_right (by simp; omega)]
   simp [h]
 rw [List.getD, List.getElem?_zipWith, e1, e2]
 simp only [Option.getD_some]
 split <;> omega
theorem fo16_mod {t : List Int} (h : t.length = 31) : val (fo16 t) % P25519 = val t % P25519 := by
 have e : val t = val (t.take 16) + 65536 ^ 16 * val (t.drop 16) := by
  conv => lhs; rw [← List.take_append_drop 16 t]
  rw [val_append]
  simp [h]
 unfold fo16
 rw [zip38_val _ _ (by simp [h]), val_append, e, p256]
 simp only [val]
 unfold P25519
 omega
theorem fo16_gp {a b t : List Int} (h : Tp a b t 16 0) : Gp (fo16 t) := by
 intro x hx
 obtain ⟨j, hj⟩ := List.mem_iff_getElem?.1 hx
 have hjl := (List.getElem?_eq_some_iff.1 hj).1
 rw [fo16_len h.len] at hjl
 have e := fo16_get h.len j hjl
 rw [List.getD, hj] at e
 simp only [Option.getD_some] at e
 have h1 := h.get j
 have h2 := h.get (j + 16)
 subst e
 split <;> omega

abbrev Z31 : List Int := [0, 0, 0, 0, 0, 0, 0, 0, 0, 0, 0, 0, 0, 0, 0, 0, 0, 0, 0, 0, 0, 0, 0, 0, 0, 0, 0, 0, 0, 0, 0]
theorem Tp.zero (a b : List Int) : Tp a b Z31 0 0 := by
 refine ⟨rfl, ?_, ?_⟩
 ·simp [prodAt, val]
 ·intro x hx
  have : x = 0 := by simpa using hx
  omega

set_option maxHeartbeats 4000000 in
theorem specMul16 (a b : List Int) (w : World) (ha : a.length = 16) (hb : b.length = 16) (la : Lm a) (lb : Lm b) :
  Calls Tryz.prog 113 #[.agg (I64 a).toArray, .agg (I64 b).toArray] w fun e w' => e = .returned (.agg (I64 (red (val a * val b))).toArray) ∧ Below w.heap.size w w' := by
 obtain ⟨A, hA⟩ : ∃ A, A = (I64 a).toArray := ⟨_, rfl⟩
 obtain ⟨B, hB⟩ : ∃ B, B = (I64 b).toArray := ⟨_, rfl⟩
 rw [← hA, ← hB]
 obtain ⟨W, hW⟩ : ∃ W, W = (((w.alloc (.cells A 80)).alloc (.cells B 80)).alloc (.cells (I64 Z16).toArray 80)).alloc (.cells (I64 Z31).toArray 188) := ⟨_, rfl⟩
 have h0 : Arr W w.heap.size 80 (I64 a) := by rw [hW, hA]; exact (((Arr.new w (I64 a) _).alloc _).alloc _).alloc _
 have h1 : Arr W (w.heap.size + 1) 80 (I64 b) := by
  rw [hW, hB]
  have := ((Arr.new (w.alloc (.cells A 80)) (I64 b) 80).alloc (.cells (I64 Z16).toArray 80)).alloc (.cells (I64 Z31).toArray 188)
  rw [World.size_alloc] at this
  exact this
 have h2 : Arr W (w.heap.size + 2) 80 (I64 Z16) := by
  rw [hW]
  have := (Arr.new ((w.alloc (.cells A 80)).alloc (.cells B 80)) (I64 Z16) 80).alloc (.cells (I64 Z31).toArray 188)
  rw [World.size_alloc, World.size_alloc] at this
  exact this
 have h3 : Arr W (w.heap.size + 3) 188 (I64 Z31) := by
  rw [hW]
  have := Arr.new (((w.alloc (.cells A 80)).alloc (.cells B 80)).alloc (.cells (I64 Z16).toArray 80)) (I64 Z31) 188
  rw [World.size_alloc, World.size_alloc, World.size_alloc] at this
  exact this
 have hBl : Below w.heap.size w W := by rw [hW]; exact ((((Below.refl _ _).alloc (Nat.le_refl _) _).alloc (by simp) _).alloc (by simp; omega) _).alloc (by simp; omega) _
 clear hA hB
 go_enter Tryz.func113, Tryz.ntmps113
 go_wp2
 go_loopw [6] (fun i wr => ∃ (k : Nat) (t : List Int), k ≤ 16 ∧ i = .int .i64 k ∧ Tp a b t k 0 ∧ Arr wr w.heap.size 80 (I64 a) ∧ Arr wr (w.heap.size + 1) 80 (I64 b) ∧ Arr wr (w.heap.size + 2) 80 (I64 Z16) ∧ Arr wr (w.heap.size + 3) 188 (I64 t) ∧ Below w.heap.size w wr) (fun i _ => 16 - (intOf i).toNat)
 case atStart => exact ⟨0, Z31, by omega, rfl, Tp.zero a b, hW ▸ h0, hW ▸ h1, hW ▸ h2, hW ▸ h3, hW ▸ hBl⟩
 case round =>
  clear h0 h1 h2 h3 hBl hW
  obtain ⟨i, t, hi, rfl, TP, h0, h1, h2, h3, hBl⟩ := hrel
  by_cases hi16 : i < 16
  ·have hi' : (i : Int) < 16 := by omega
   go_wp2
   go_loopw [7] (fun c wr => ∃ (k : Nat) (t : List Int), k ≤ 16 ∧ c = .int .i64 k ∧ Tp a b t i k ∧ Arr wr w.heap.size 80 (I64 a) ∧ Arr wr (w.heap.size + 1) 80 (I64 b) ∧ Arr wr (w.heap.size + 2) 80 (I64 Z16) ∧ Arr wr (w.heap.size + 3) 188 (I64 t) ∧ Below w.heap.size w wr) (fun c _ => 16 - (intOf c).toNat)
   case atStart => exact ⟨0, t, by omega, rfl, TP, h0, h1, h2, h3, hBl⟩
   case round =>
    clear h0 h1 h2 h3 hBl TP t
    obtain ⟨k, t, hk, rfl, TP, h0, h1, h2, h3, hBl⟩ := hrel
    by_cases hk16 : k < 16
    ·obtain ⟨x, hx⟩ : ∃ x, x = a.getD i 0 := ⟨_, rfl⟩
     obtain ⟨y, hy⟩ : ∃ y, y = b.getD k 0 := ⟨_, rfl⟩
     obtain ⟨z, hz⟩ : ∃ z, z = t.getD (i + k) 0 := ⟨_, rfl⟩
     have bx := gD_lm la i
     have by' := gD_lm lb k
     have bz := TP.get (i + k)
     rw [← hx] at bx
     rw [← hy] at by'
     rw [← hz] at bz
     have cx : wr.cell? ⟨w.heap.size, i, none⟩ = some (.int .i64 x) := by rw [hx]; exact h0.i64 i (by omega)
     have cy : wr.cell? ⟨w.heap.size + 1, k, none⟩ = some (.int .i64 y) := by rw [hy]; exact h1.i64 k (by omega)
     have htl := TP.len
     have cz : wr.cell? ⟨w.heap.size + 3, i + k, none⟩ = some (.int .i64 z) := by rw [hz]; exact h3.i64 (i + k) (by omega)
     have hpb := mul_part bx.1 bx.2 by'.1 by'.2
     have TP2 := TP.step hi16 (by omega) hk16 (p := x * y) (by rw [hx, hy]) hpb.1 hpb.2
     rw [← hz] at TP2
     obtain ⟨p, hp⟩ : ∃ p, p = x * y := ⟨_, rfl⟩
     rw [← hp] at TP2 hpb
     have s0 : IntKind.i64.wrap (x * y) = p := by rw [← hp, IntKind.wrap_i64]; omega
     have s1 : IntKind.i64.wrap (z + p) = z + p := by rw [IntKind.wrap_i64]; omega
     have s2 : IntKind.i64.wrap ((i : Int) + (k : Int)) = (i : Int) + (k : Int) := by rw [IntKind.wrap_i64]; omega
     have s3 : ((i : Int) + (k : Int)).toNat = i + k := by omega
     have s4 : (i : Int) + (k : Int) < 31 := by omega
     have s5 : (0 : Int) ≤ (i : Int) + (k : Int) := by omega
     have s6 : (0 : Int) ≤ (i : Int) := by omega
     have s7 : (0 : Int) ≤ (k : Int) := by omega
     have hk' : (k : Int) < 16 := by omega
     have hfz := h3.frozen (i + k)
     have e : (I64 t).set (i + k) (.int .i64 (z + p)) = I64 (t.set (i + k) (z + p)) := by simp
     have h3' := h3.set (i + k) (.int .i64 (z + p))
     rw [e] at h3'
     have h0' := h0.other ⟨w.heap.size + 3, i + k, none⟩ (.int .i64 (z + p)) (by simp)
     have h1' := h1.other ⟨w.heap.size + 3, i + k, none⟩ (.int .i64 (z + p)) (by simp)
     have h2' := h2.other ⟨w.heap.size + 3, i + k, none⟩ (.int .i64 (z + p)) (by simp)
     have hb' := hBl.setCell (p := ⟨w.heap.size + 3, i + k, none⟩) (by simp) (.int .i64 (z + p))
     have H0 : Hid _ := h0'.drew
     have H1 : Hid _ := h1'.drew
     have H2 : Hid _ := h2'.drew
     have H3 : Hid _ := h3'.drew
     have HB : Hid _ := hb'.drew
     have HT : Hid _ := TP2
     clear h0' h1' h2' h3' hb' e h0 h1 h2 h3 hBl hx hy hz TP TP2 hp htl
     go_wp2
     go_region
     clear cx cy cz hfz
     go_wp2
     go_roundw
     case rel => exact ⟨k + 1, _, by omega, by go_num, HT.out, H0.out, H1.out, H2.out, H3.out, HB.out⟩
     case measure => simp [intOf]; omega
    ·obtain rfl : k = 16 := by omega
     have TP2 := TP.row hb (by omega)
     clear TP
     go_wp2
     go_roundw
     case rel => exact ⟨i + 1, t, by omega, by go_num, TP2, h0, h1, h2, h3, hBl⟩
     case measure => simp [intOf]; omega
  ·obtain rfl : i = 16 := by omega
   have htl := TP.len
   have hsl := fo16_len htl
   have hsg := fo16_gp TP
   have hsv : red (val (fo16 t)) = red (val a * val b) := by
    unfold red
    rw [fo16_mod htl, TP.vl, prodAt_end a b ha]
   have hsx := fo16_get htl
   have htb := TP.get
   obtain ⟨es, hes⟩ : ∃ es, es = fo16 t := ⟨_, rfl⟩
   rw [← hes] at hsl hsg hsv hsx
   have HSV : Hid _ := hsv
   have HSX : Hid _ := hsx
   have HTB : Hid _ := htb
   clear TP hes hsv hsx htb h0 h1
   have hsz := h3.lt
   obtain ⟨W3, hW3⟩ : ∃ W3, W3 = wr.alloc (.cells (I64 Z16).toArray 80) := ⟨_, rfl⟩
   have g4 : Arr W3 wr.heap.size 80 (I64 (es.take 0 ++ Z16.drop 0)) := by rw [hW3]; exact Arr.new wr (I64 Z16) _
   have g2 : Arr W3 (w.heap.size + 2) 80 (I64 Z16) := by rw [hW3]; exact h2.alloc _
   have g3 : Arr W3 (w.heap.size + 3) 188 (I64 t) := by rw [hW3]; exact h3.alloc _
   have gB : Below w.heap.size w W3 := by rw [hW3]; exact hBl.alloc hBl.size _
   obtain ⟨E, hE⟩ : ∃ E, E = wr.heap.size := ⟨_, rfl⟩
   clear h2 h3 hBl
   go_wp2
   rw [← hE] at g4 hsz ⊢
   go_loopw [9] (fun i wr' => ∃ k : Nat, k ≤ 16 ∧ i = .int .i64 k ∧ Arr wr' E 80 (I64 (es.take k ++ Z16.drop k)) ∧ Arr wr' (w.heap.size + 2) 80 (I64 Z16) ∧ Arr wr' (w.heap.size + 3) 188 (I64 t) ∧ Below w.heap.size w wr') (fun i _ => 16 - (intOf i).toNat)
   case atStart => exact ⟨0, by omega, rfl, hW3 ▸ g4, hW3 ▸ g2, hW3 ▸ g3, hW3 ▸ gB⟩
   case round =>
    clear g4 g2 g3 gB hW3 hE
    obtain ⟨k, hk, rfl, g4, g2, g3, gB⟩ := hrel
    have hfl : (es.take k).length = k := by simp; omega
    by_cases hlt : k < 16
    ·obtain ⟨x, hx⟩ : ∃ x, x = t.getD k 0 := ⟨_, rfl⟩
     have hxb := HTB.out k
     rw [← hx] at hxb
     have hek := HSX.out k hlt
     rw [← hx] at hek
     have cx : wr.cell? ⟨w.heap.size + 3, k, none⟩ = some (.int .i64 x) := by rw [hx]; exact g3.i64 k (by omega)
     obtain ⟨u, hu⟩ : ∃ u, wr.cell? ⟨E, k, none⟩ = some u := by
      rw [g4.cell k]
      exact ⟨_, List.getElem?_eq_getElem (by simp [hsl]; omega)⟩
     have hfz := g4.frozen k
     have hk16 : (k : Int) < 16 := by omega
     have hk0 : (0 : Int) ≤ (k : Int) := by omega
     have hne3 : w.heap.size + 3 ≠ E := by omega
     have hne2 : w.heap.size + 2 ≠ E := by omega
     have hts := take_app es k (by omega)
     have hs := fun v => g4.set k (.int .i64 v)
     simp only [set_app hfl (show k < Z16.length from hlt)] at hs
     have HTS : Hid _ := hts
     clear hts hx
     by_cases h15 : k < 15
     ·have h15' : (k : Int) < 15 := by omega
      obtain ⟨y, hy⟩ : ∃ y, y = t.getD (k + 16) 0 := ⟨_, rfl⟩
      have hyb := HTB.out (k + 16)
      rw [← hy] at hyb
      rw [if_pos h15, ← hy] at hek
      have cy : (wr.setCell ⟨E, k, none⟩ (.int .i64 x)).cell? ⟨w.heap.size + 3, k + 16, none⟩ = some (.int .i64 y) := by
       rw [hy]; exact (g3.other ⟨E, k, none⟩ (.int .i64 x) hne3).i64 (k + 16) (by omega)
      have cz : (wr.setCell ⟨E, k, none⟩ (.int .i64 x)).cell? ⟨E, k, none⟩ = some (.int .i64 x) := World.cell?_setCell_same' _ _ _ (by rw [hu]; rfl)
      have hfz2 : (wr.setCell ⟨E, k, none⟩ (.int .i64 x)).frozen? ⟨E, k, none⟩ = false := by rw [World.frozen?_setCell]; exact hfz
      have s1 : IntKind.i64.wrap ((k : Int) + 16) = (k : Int) + 16 := by rw [IntKind.wrap_i64]; omega
      have s2 : ((k : Int) + 16).toNat = k + 16 := by omega
      have s3 : (k : Int) + 16 < 31 := by omega
      have s4 : (0 : Int) ≤ (k : Int) + 16 := by omega
      have s5 : IntKind.i64.wrap (38 * y) = 38 * y := by rw [IntKind.wrap_i64]; omega
      have s6 : IntKind.i64.wrap (x + 38 * y) = x + 38 * y := by rw [IntKind.wrap_i64]; omega
      have g4' := (hs x).set k (.int .i64 (x + 38 * y))
      have e4 : (I64 (es.take k ++ [x] ++ Z16.drop (k + 1))).set k (.int .i64 (x + 38 * y)) = I64 (es.take (k + 1) ++ Z16.drop (k + 1)) := by
       rw [set_mid hfl, HTS.out, hek]
      rw [e4] at g4'
      have g2' := (g2.other ⟨E, k, none⟩ (.int .i64 x) hne2).other ⟨E, k, none⟩ (.int .i64 (x + 38 * y)) hne2
      have g3' := (g3.other ⟨E, k, none⟩ (.int .i64 x) hne3).other ⟨E, k, none⟩ (.int .i64 (x + 38 * y)) hne3
      have gB' := (gB.setCell (p := ⟨E, k, none⟩) (by show w.heap.size ≤ E; omega) (.int .i64 x)).setCell (p := ⟨E, k, none⟩) (by show w.heap.size ≤ E; omega) (.int .i64 (x + 38 * y))
      obtain ⟨V, hV⟩ : ∃ V, V = wr.setCell ⟨E, k, none⟩ (.int .i64 x) := ⟨_, rfl⟩
      rw [← hV] at cy cz hfz2 g4' g2' g3' gB'
      have H4 : Hid _ := g4'.drew
      have H2 : Hid _ := g2'.drew
      have H3 : Hid _ := g3'.drew
      have HB : Hid _ := gB'.drew
      clear g4' g2' g3' gB' e4 g4 g2 g3 gB hs hek hy
      go_wp2
      rw [← hV]
      clear hV hu cx hfz
      go_region
      clear cy cz hfz2
      go_wp2
      go_roundw
      case rel => exact ⟨k + 1, by omega, by go_num, H4.out, H2.out, H3.out, HB.out⟩
      case measure => simp [intOf]; omega
     ·have h15' : ¬ (k : Int) < 15 := by omega
      rw [if_neg h15, Int.add_zero] at hek
      have g4' := hs x
      rw [← hek, ← HTS.out] at g4'
      rw [hek] at g4'
      have g2' := g2.other ⟨E, k, none⟩ (.int .i64 x) hne2
      have g3' := g3.other ⟨E, k, none⟩ (.int .i64 x) hne3
      have gB' := gB.setCell (p := ⟨E, k, none⟩) (by show w.heap.size ≤ E; omega) (.int .i64 x)
      have H4 : Hid _ := g4'
      have H2 : Hid _ := g2'
      have H3 : Hid _ := g3'
      have HB : Hid _ := gB'
      clear g4' g2' g3' gB' g4 g2 g3 gB hs hek
      go_wp2
      go_roundw
      case rel => exact ⟨k + 1, by omega, by go_num, H4.out, H2.out, H3.out, HB.out⟩
      case measure => simp [intOf]; omega
    ·obtain rfl : k = 16 := by omega
     rw [List.take_of_length_le (by omega), show Z16.drop 16 = [] from rfl, List.append_nil] at g4
     clear hfl g3
     go_wp2_with (refine wpList_load_row rfl 80 _ rfl E rfl 80 (I64 es).toArray (0, 0) _ g4 Tryz.underlying80 rfl (by simpa [hsl] using infoE) ?_)
     refine (specCarry es _ hsl hsg).mono ?_
     rintro e w1 ⟨rfl, hb1⟩
     have h21 := g2.kept hb1
     have hB1 := gB.trans (hb1.mono gB.size)
     have hRl := red_len (val es)
     obtain ⟨R, hR⟩ : ∃ R, R = red (val es) := ⟨_, rfl⟩
     rw [← hR] at hRl ⊢
     have HR : Hid (R = red (val a * val b)) := by unfold Hid; rw [hR]; exact HSV.out
     have h22 := h21.row (I64 R)
     have hb2 := setRow_below hB1 (w.heap.size + 2) (I64 R).toArray (by omega)
     clear hR g4 g2 gB hb1
     go_wp2_with (refine wpList_store_row rfl 80 _ _ rfl (w.heap.size + 2) (I64 R).toArray rfl rfl 80 _ h21 (by simpa [hRl] using infoE) (by simp [hRl]) (by simp [Value.oneCell']) ?_)
     exact bodyPost_ret (results_cell_row rfl _ _ (w.heap.size + 2) 80 (I64 R).toArray (0, 0) _ rfl h22 Tryz.underlying80 rfl (by simpa [hRl] using infoE)) rfl ⟨by rw [HR.out], hb2⟩
structure Ek (w W : World) (g : Nat) (l : List Int) : Prop where
 fr : Below w.heap.size w W
 ar : Arr W g 80 (I64 l)
theorem Ek.go {w A B : World} {g : Nat} {l : List Int} (h : Ek w A g l) (hb : Below A.heap.size A B) : Ek w B g l := ⟨h.fr.trans (hb.mono h.fr.size), h.ar.kept hb⟩
theorem Ek.all {w W : World} {g : Nat} {l : List Int} (h : Ek w W g l) : W.rangeAt g 0 (I64 l) := arr_range h.ar
def setV (cs : List Value) : Nat → List Value → List Value
 | _, [] => cs
 | j, v :: vs => setV (cs.set j v) (j + 1) vs
theorem setV_eq : ∀ (vs pre : List Value) (cs : List Value), cs.length = vs.length → setV (pre ++ cs) pre.length vs = pre ++ vs
 | [], pre, cs, h => by
  have : cs = [] := List.eq_nil_of_length_eq_zero (by simpa using h)
  simp [setV, this]
 | v :: vs, pre, c :: cs, h => by
  have := setV_eq vs (pre ++ [v]) cs (by simpa using h)
  simp only [setV]
  rw [show (pre ++ c :: cs).set pre.length v = (pre ++ [v]) ++ cs by simp]
  simpa using this
 | _ :: _, _, [], h => by simp at h
theorem Arr.setCells {g : Nat} {t : TypeId} : ∀ (vs : List Value) {w : World} {cs : List Value} (j : Nat), Arr w g t cs → Arr (w.setCells g j vs) g t (setV cs j vs)
 | [], _, _, _, h => h
 | v :: vs, _, _, j, h => Arr.setCells vs (j + 1) (h.set j v)
theorem Arr.setCells0 {w : World} {g : Nat} {t : TypeId} {cs vs : List Value} (h : Arr w g t cs) (hl : cs.length = vs.length) : Arr (w.setCells g 0 vs) g t vs := by
 have := Arr.setCells vs 0 h
 rw [show setV cs 0 vs = vs from setV_eq vs [] cs hl] at this
 exact this
theorem Arr.setCellsO {g k : Nat} {t : TypeId} (hne : k ≠ g) : ∀ (vs : List Value) {w : World} {cs : List Value} (j : Nat), Arr w k t cs → Arr (w.setCells g j vs) k t cs
 | [], _, _, _, h => h
 | v :: vs, _, _, j, h => Arr.setCellsO hne vs (j + 1) (h.other ⟨g, j, none⟩ v hne)
theorem setCells_below {B g : Nat} {w0 : World} (hg : B ≤ g) : ∀ (vs : List Value) {w : World} (j : Nat), Below B w0 w → Below B w0 (w.setCells g j vs)
 | [], _, _, h => h
 | v :: vs, _, j, h => setCells_below hg vs (j + 1) (h.setCell (p := ⟨g, j, none⟩) hg v)
theorem arr_there {W : World} {g : Nat} {t : TypeId} {cs : List Value} (h : Arr W g t cs) : W.there g 0 cs.length := by
 intro j hj
 rw [Nat.zero_add]
 refine ⟨?_, h.frozen j⟩
 rw [h.cell j, List.getElem?_eq_getElem hj]
 rfl
structure E3 (w W : World) (a b : List Int) : Prop where
 fr : Below w.heap.size w W
 pa : Arr W w.heap.size 80 (I64 a)
 pb : Arr W (w.heap.size + 1) 80 (I64 b)
 pr : Arr W (w.heap.size + 2) 80 (I64 Z16)
theorem E3.go {w A B : World} {a b : List Int} (h : E3 w A a b) (hb : Below A.heap.size A B) : E3 w B a b := ⟨h.fr.trans (hb.mono h.fr.size), h.pa.kept hb, h.pb.kept hb, h.pr.kept hb⟩
theorem E3.both {w W : World} {a b : List Int} (h : E3 w W a b) : W.rangeAt w.heap.size 0 (I64 a) ∧ W.rangeAt (w.heap.size + 1) 0 (I64 b) := ⟨arr_range h.pa, arr_range h.pb⟩

theorem red_sub {x y : Int} : (x + (P25519 - y)) % P25519 = (x - y) % P25519 := by
 rw [show x + (P25519 - y) = x - y + P25519 by omega, Int.add_emod_right]

set_option maxHeartbeats 2000000 in
theorem specSub16 (a b : List Int) (w : World) (ha : feOk a = true) (hb : feOk b = true) :
  Calls Tryz.prog 114 #[.agg (I64 a).toArray, .agg (I64 b).toArray] w fun e w' => e = .returned (.agg (I64 (red (val a - val b))).toArray) ∧ Below w.heap.size w w' := by
 obtain ⟨la16, la, _⟩ := (feOk_iff a).1 ha
 obtain ⟨lb16, lb, vb⟩ := (feOk_iff b).1 hb
 have nb := val_nonneg (fun x hx => (lb x hx).1)
 have htk : tk16 PL b = lim 16 (P25519 - val b) := by rw [tk16_lim PL_len lb16, PL_val]
 have htl : (tk16 PL b).length = 16 := by rw [htk, lim_len]
 have htm : Lm (tk16 PL b) := by rw [htk]; exact lim_lm _ _
 have htv : val (tk16 PL b) = P25519 - val b := by
  rw [htk, val_lim, p256]
  unfold P25519 at *
  omega
 have hres : red (val a + val (tk16 PL b)) = red (val a - val b) := by unfold red; rw [htv, red_sub]
 obtain ⟨T, hT⟩ : ∃ T, T = tk16 PL b := ⟨_, rfl⟩
 obtain ⟨R, hR⟩ : ∃ R, R = red (val a - val b) := ⟨_, rfl⟩
 have hRl : R.length = 16 := by rw [hR]; exact red_len _
 have HTK : Hid (∀ Z, Calls Tryz.prog 120 #[.agg (I64 PL).toArray, .agg (I64 b).toArray] Z fun e w' => e = .returned (.agg (I64 T).toArray) ∧ Below Z.heap.size Z w') := by
  unfold Hid; intro Z; rw [hT]; exact specTake PL b Z PL_len lb16 PL_lm lb
 have HAD : Hid (∀ Z, Calls Tryz.prog 116 #[.agg (I64 a).toArray, .agg (I64 T).toArray] Z fun e w' => e = .returned (.agg (I64 R).toArray) ∧ Below Z.heap.size Z w') := by
  unfold Hid; intro Z; rw [hT, hR, ← hres]; exact specAdd16 a (tk16 PL b) Z la16 htl la htm
 rw [← hR]
 obtain ⟨A, hA⟩ : ∃ A, A = (I64 a).toArray := ⟨_, rfl⟩
 obtain ⟨B, hB⟩ : ∃ B, B = (I64 b).toArray := ⟨_, rfl⟩
 rw [← hA, ← hB]
 obtain ⟨W, hW⟩ : ∃ W, W = ((w.alloc (.cells A 80)).alloc (.cells B 80)).alloc (.cells #[.int .i64 0, .int .i64 0, .int .i64 0, .int .i64 0, .int .i64 0, .int .i64 0, .int .i64 0, .int .i64 0, .int .i64 0, .int .i64 0, .int .i64 0, .int .i64 0, .int .i64 0, .int .i64 0, .int .i64 0, .int .i64 0] 80) := ⟨_, rfl⟩
 have EE : E3 w W a b := by
  refine ⟨?_, ?_, ?_, ?_⟩
  ·rw [hW]; exact (((Below.refl _ _).alloc (Nat.le_refl _) _).alloc (by simp) _).alloc (by simp; omega) _
  ·rw [hW, hA]; exact ((Arr.new w (I64 a) _).alloc _).alloc _
  ·rw [hW, hB]
   have := (Arr.new (w.alloc (.cells A 80)) (I64 b) 80).alloc (.cells (I64 Z16).toArray 80)
   rw [World.size_alloc] at this
   exact this
  ·rw [hW]
   have := Arr.new ((w.alloc (.cells A 80)).alloc (.cells B 80)) (I64 Z16) 80
   rw [World.size_alloc, World.size_alloc] at this
   exact this
 have EE' : E3 w W.drew a b := EE.go (Below.refl _ _).drew
 have hone : ∀ v ∈ I64 R, v.oneCell' = true := by
  intro v hv
  obtain ⟨x, _, rfl⟩ := List.mem_map.1 hv
  rfl
 clear ha hb la lb vb nb htk htl htm htv hres hT hR hA hB EE
 have hu : Tryz.prog.underlying 80 = some (.array 16 3) := Tryz.underlying80
 have hia : (Tryz.prog.info? 80).map (·.size) = some (I64 a).length := by simpa [la16] using infoE
 have hib : (Tryz.prog.info? 80).map (·.size) = some (I64 b).length := by simpa [lb16] using infoE
 go_enter Tryz.func114, Tryz.ntmps114
 go_wp2
 rw [← hW]
 clear hW
 refine wp_region_held_drew (S := fun W => W.rangeAt w.heap.size 0 (I64 a) ∧ W.rangeAt (w.heap.size + 1) 0 (I64 b)) (by kernel_rfl) EE'.both (fun hHeld => ?_)
 refine wpAnyH_take (i := 0) (oi := { dst := some 5, op := .load 80 (.tmp 2), type := 80, pos := "l04_field.go:108", after := #[], guard := none }) (v := _) rfl (by kernel_rfl) (by kernel_rfl) (by kernel_rfl) (fun _ _ _ h => h) (yieldsIf_load_mid (by rfl) _ _ rfl _ _ rfl (I64 a) _ (fun _ h => h.1) hu rfl hia) (by assumption) ?_
 simp only [Act.put, List.setIfInBounds_toArray, List.set_cons_zero, List.set_cons_succ]
 refine wpAnyH_take (i := 2) (oi := { dst := some 7, op := .load 80 (.tmp 3), type := 80, pos := "l04_field.go:108", after := #[], guard := none }) (v := _) rfl (by kernel_rfl) (by kernel_rfl) (by kernel_rfl) (fun _ _ _ h => h) (yieldsIf_load_mid (by rfl) _ _ rfl _ _ rfl (I64 b) _ (fun _ h => h.2) hu rfl hib) (by assumption) ?_
 simp only [Act.put, List.setIfInBounds_toArray, List.set_cons_zero, List.set_cons_succ]
 refine wpAnyH_ready (rs := [1]) (by kernel_rfl) (by simp) (AllReadyH.cons (o := { dst := some 6, op := .call { callee := .value (.func 112), args := #[], argTypes := #[] }, type := 80, pos := "l04_field.go:108", after := #[], guard := none }) rfl (fun K hK => ?_) AllReadyH.nil)
 go_simp
 refine (specPrime _).mono ?_
 rintro e w1 ⟨rfl, hb1⟩
 replace EE' := EE'.go hb1
 go_wp2_with fail
 refine hK.out _ _ EE'.both (fun hHeld => ?_)
 clear hK K hb1
 refine wpAnyH_ready (rs := [3]) (by kernel_rfl) (by simp) (AllReadyH.cons (o := { dst := some 8, op := .call { callee := .value (.func 120), args := #[.tmp 6, .tmp 7], argTypes := #[80, 80] }, type := 80, pos := "l04_field.go:108", after := #[{ on := 1, ground := .data }, { on := 2, ground := .data }, { on := 1, ground := .chain }], guard := none }) rfl (fun K hK => ?_) AllReadyH.nil)
 go_simp
 refine (HTK.out _).mono ?_
 rintro e w2 ⟨rfl, hb2⟩
 replace EE' := EE'.go hb2
 go_wp2_with fail
 refine hK.out _ _ EE'.both (fun hHeld => ?_)
 clear hK K hb2
 refine wpAnyH_ready (rs := [4]) (by kernel_rfl) (by simp) (AllReadyH.cons (o := { dst := some 9, op := .call { callee := .value (.func 116), args := #[.tmp 5, .tmp 8], argTypes := #[80, 80] }, type := 80, pos := "l04_field.go:108", after := #[{ on := 0, ground := .data }, { on := 3, ground := .data }, { on := 3, ground := .chain }], guard := none }) rfl (fun K hK => ?_) AllReadyH.nil)
 go_simp
 refine (HAD.out _).mono ?_
 rintro e w3 ⟨rfl, hb3⟩
 replace EE' := EE'.go hb3
 go_wp2_with fail
 refine hK.out _ _ EE'.both (fun hHeld => ?_)
 have hA5 : Arr (w3.setCells (w.heap.size + 1 + 1) 0 (I64 R)) (w.heap.size + 1 + 1) 80 (I64 R) := Arr.setCells0 EE'.pr (by simp [hRl])
 have hB5 : Below w.heap.size w (w3.setCells (w.heap.size + 1 + 1) 0 (I64 R)) := setCells_below (by omega) _ _ EE'.fr
 have hS5 : (w3.setCells (w.heap.size + 1 + 1) 0 (I64 R)).rangeAt w.heap.size 0 (I64 a) ∧ (w3.setCells (w.heap.size + 1 + 1) 0 (I64 R)).rangeAt (w.heap.size + 1) 0 (I64 b) := ⟨arr_range (Arr.setCellsO (by omega) _ _ EE'.pa), arr_range (Arr.setCellsO (by omega) _ _ EE'.pb)⟩
 have hth : w3.there (w.heap.size + 1 + 1) 0 (I64 R).toArray.size := by have := arr_there EE'.pr; simpa [hRl] using this
 have hir : (Tryz.prog.info? 80).map (·.size) = some (I64 R).toArray.size := by simpa [hRl] using infoE
 refine wpAnyH_ready (rs := [5]) (by kernel_rfl) (by simp) (AllReadyH.cons (o := { dst := none, op := .store 80 (.tmp 4) (.tmp 9), type := 0, pos := "l04_field.go:108", after := #[{ on := 4, ground := .data }, { on := 4, ground := .chain }, { on := 0, ground := .phase }, { on := 1, ground := .phase }, { on := 2, ground := .phase }, { on := 3, ground := .phase }, { on := 4, ground := .phase }], guard := none }) rfl (fun K hK => ?_) AllReadyH.nil)
 rw [if_pos (by rfl)]
 refine wp_store_mid _ _ _ rfl _ _ (I64 R).toArray rfl rfl hth hir (all_oneCell_toArray hone) ?_
 simp only [Act.put]
 refine hK.out _ _ hS5 (fun hHeld => ?_)
 clear hK K
 refine wpAnyH_done (by kernel_rfl) ?_ _
 go_wp2
 exact bodyPost_ret (results_cell_row rfl _ _ (w.heap.size + 1 + 1) 80 (I64 R).toArray (0, 0) _ rfl hA5 Tryz.underlying80 rfl (by simpa [hRl] using infoE)) rfl ⟨rfl, hB5⟩
end Go.Proofs.YtihoaakbkffejaaGreatDoor

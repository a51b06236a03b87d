/-
  What is proved here: what the program's table says of the specification's arrays of sixteen, and the prime's parts; no condition; plain facts on parts that are set one by one; no condition; the contract of the specification's l4less: which of two numbers is less; the contract of the specification's l4take: a difference, part by part; plain facts on cells that are set one behind the other; no condition.
-/
import Derived.Test.YtlafcjoccbinaaaDoorZD
import Derived.Test.YtlafcjoccbinaaaDoorZA
import Derived.Test.YtlafcjoccbinaaaDoorProg
import Derived.BigRegion
import Derived.Laws.BitsLemmas
import Derived.Deep.MidRow
import Derived.Deep.RegionHeld3
namespace Go.Proofs.YtlafcjoccbinaaaDoor
open Go.RowKit
set_option maxRecDepth 100000

theorem infoE : (Tryd.prog.info? 66).map (·.size) = some 16 := by kernel_rfl
theorem infoI : (Tryd.prog.info? 3).map (·.size) = some 1 := by kernel_rfl
/-- The prime's parts. -/
def PL : List Int := [65517, 65535, 65535, 65535, 65535, 65535, 65535, 65535, 65535, 65535, 65535, 65535, 65535, 65535, 65535, 32767]
theorem PL_len : PL.length = 16 := rfl
theorem PL_val : val PL = P25519 := by decide
theorem PL_lm : Lm PL := by unfold Lm PL; decide

abbrev Z16 : List Int := [0, 0, 0, 0, 0, 0, 0, 0, 0, 0, 0, 0, 0, 0, 0, 0]

end Go.Proofs.YtlafcjoccbinaaaDoor
namespace Go.Proofs.YtlafcjoccbinaaaDoor
open Go.RowKit
set_option maxRecDepth 100000

theorem set_app {f a : List Int} {k : Nat} (hf : f.length = k) (hk : k < a.length) (v : Int) : (I64 (f ++ a.drop k)).set k (.int .i64 v) = I64 ((f ++ [v]) ++ a.drop (k + 1)) := by
  subst hf
  have e : a.drop f.length = a.getD f.length 0 :: a.drop (f.length + 1) := by
    rw [List.drop_eq_getElem_cons hk]; simp [hk]
  rw [e]
  simp [List.set_append_right]
theorem get_app {f a : List Int} {k : Nat} (hf : f.length = k) : (f ++ a.drop k).getD k 0 = a.getD k 0 := by
  subst hf
  simp [List.getD, List.getElem?_append_right]
theorem len_app {f a : List Int} {k : Nat} (hf : f.length = k) (hk : k ≤ a.length) : (f ++ a.drop k).length = a.length := by
  simp [hf]; omega
theorem take_app (a : List Int) (k : Nat) (h : k < a.length) : a.take (k + 1) = a.take k ++ [a.getD k 0] := by
  rw [List.take_add_one, List.getD, List.getElem?_eq_getElem h]; rfl
theorem i64_low16 {x : Int} (h0 : 0 ≤ x) (h1 : x < 9223372036854775808) : bits .and .i64 x 65535 = x % 65536 :=
  bits_mask .i64 63 (by decide) (fun n a b => by rw [IntKind.wrap_i64]; omega) 16 (by decide) x h0 h1
theorem i64_low15 {x : Int} (h0 : 0 ≤ x) (h1 : x < 9223372036854775808) : bits .and .i64 x 32767 = x % 32768 :=
  bits_mask .i64 63 (by decide) (fun n a b => by rw [IntKind.wrap_i64]; omega) 15 (by decide) x h0 h1

theorem cpc_sub {a b : List Int} (ha : Lm a) (hb : Lm b) : ∀ {c : Int}, (c = 0 ∨ c = -1) → (cpc (List.zipWith (fun x y => x - y) a b) c = 0 ∨ cpc (List.zipWith (fun x y => x - y) a b) c = -1) := by
  induction a generalizing b with
  | nil => intro c hc; simpa [cpc] using hc
  | cons x a ih =>
    cases b with
    | nil => intro c hc; simpa [cpc] using hc
    | cons y b =>
      intro c hc
      have hx := ha x (by simp)
      have hy := hb y (by simp)
      simp only [List.zipWith_cons_cons, cpc]
      exact ih (fun z hz => ha z (by simp [hz])) (fun z hz => hb z (by simp [hz])) (by omega)
theorem gD_lm {a : List Int} (h : Lm a) (k : Nat) : 0 ≤ a.getD k 0 ∧ a.getD k 0 < 65536 := by
  by_cases hk : k < a.length
  · have : a.getD k 0 ∈ a := by rw [List.getD_eq_getElem?_getD, List.getElem?_eq_getElem hk]; exact List.getElem_mem _
    exact h _ this
  · rw [List.getD_eq_getElem?_getD, List.getElem?_eq_none (by omega)]; simp

theorem lm_of {xs : List Int} (hl : xs.length = 16) (h : ∀ j, j < 16 → 0 ≤ xs.getD j 0 ∧ xs.getD j 0 < 65536) : Lm xs := by
  intro x hx
  obtain ⟨j, hj⟩ := List.mem_iff_getElem?.1 hx
  have hjl := (List.getElem?_eq_some_iff.1 hj).1
  have := h j (by omega)
  rw [List.getD, hj] at this
  simpa using this

theorem arr_range {W : World} {g : Nat} {t : TypeId} {cs : List Value} (h : Arr W g t cs) : W.rangeAt g 0 cs := by
  intro j v hj
  rw [Nat.zero_add, h.cell j]
  exact hj
end Go.Proofs.YtlafcjoccbinaaaDoor
namespace Go.Proofs.YtlafcjoccbinaaaDoor
open Go.RowKit
set_option maxRecDepth 100000

set_option maxHeartbeats 1000000 in
theorem specLess (a b : List Int) (w : World) (ha : a.length = 16) (hb : b.length = 16) (la : Lm a) (lb : Lm b) :
    Calls Tryd.prog 59 #[.agg (I64 a).toArray, .agg (I64 b).toArray] w fun e w' => e = .returned (.bool (decide (val a < val b))) ∧ Below w.heap.size w w' := by
  obtain ⟨A, hA⟩ : ∃ A, A = (I64 a).toArray := ⟨_, rfl⟩
  obtain ⟨B, hB⟩ : ∃ B, B = (I64 b).toArray := ⟨_, rfl⟩
  rw [← hA, ← hB]
  obtain ⟨W, hW⟩ : ∃ W, W = (w.alloc (.cells A 66)).alloc (.cells B 66) := ⟨_, rfl⟩
  have h0 : Arr W w.heap.size 66 (I64 a) := by rw [hW, hA]; exact (Arr.new w (I64 a) _).alloc _
  have h1 : Arr W (w.heap.size + 1) 66 (I64 b) := by
    rw [hW, hB]
    have := Arr.new (w.alloc (.cells A 66)) (I64 b) 66
    rw [World.size_alloc] at this
    exact this
  have hBl : Below w.heap.size w W := by rw [hW]; exact ((Below.refl _ _).alloc (Nat.le_refl _) _).alloc (by simp) _
  obtain ⟨r, hr⟩ : ∃ r, r = decide (val a < val b) := ⟨_, rfl⟩
  rw [← hr]
  have HR : Hid _ := hr
  have HA : Hid _ := hA
  have HB' : Hid _ := hB
  clear hr hA hB
  go_enter Tryd.func59, Tryd.ntmps59
  go_wp2
  rw [← hW]
  clear hW
  go_loopw [5] (fun i wr => ∃ (k : Nat) (j : Int), k ≤ 16 ∧ j = 15 - (k : Int) ∧ i = .int .i64 j ∧ a.drop (16 - k) = b.drop (16 - k) ∧ Arr wr w.heap.size 66 (I64 a) ∧ Arr wr (w.heap.size + 1) 66 (I64 b) ∧ Below w.heap.size w wr) (fun i _ => (intOf i + 1).toNat)
  case atStart => exact ⟨0, 15, by omega, by omega, rfl, by rw [List.drop_eq_nil_of_le (by omega), List.drop_eq_nil_of_le (by omega)], h0, h1, hBl⟩
  case round =>
    clear h0 h1 hBl
    obtain ⟨k, j, hk, hj, rfl, hd, h0, h1, hBl⟩ := hrel
    by_cases hlt : k < 16
    · obtain ⟨i, rfl⟩ : ∃ i : Nat, j = (i : Int) := ⟨15 - k, by omega⟩
      have hi : 16 - k = i + 1 := by omega
      rw [hi] at hd
      obtain ⟨x, hx⟩ : ∃ x, x = a.getD i 0 := ⟨_, rfl⟩
      obtain ⟨y, hy⟩ : ∃ y, y = b.getD i 0 := ⟨_, rfl⟩
      have cx : wr.cell? ⟨w.heap.size, i, none⟩ = some (.int .i64 x) := by rw [hx]; exact h0.i64 i (by omega)
      have cy : wr.cell? ⟨w.heap.size + 1, i, none⟩ = some (.int .i64 y) := by rw [hy]; exact h1.i64 i (by omega)
      have hi16 : (i : Int) < 16 := by omega
      have hi0 : (0 : Int) ≤ (i : Int) := by omega
      have s5 : wrap64 ((i : Int) - 1) = (i : Int) - 1 := by unfold wrap64; omega
      have HJ : Hid _ := hj
      by_cases hne : x = y
      · have hd' : a.drop i = b.drop i := by
          rw [List.drop_eq_getElem_cons (by omega), List.drop_eq_getElem_cons (l := b) (by omega), hd]
          have e1 : a[i] = x := by rw [hx]; simp [show i < a.length by omega]
          have e2 : b[i] = y := by rw [hy]; simp [show i < b.length by omega]
          rw [e1, e2, hne]
        have HD : Hid (a.drop (16 - (k + 1)) = b.drop (16 - (k + 1))) := by unfold Hid; rw [show 16 - (k + 1) = i by omega]; exact hd'
        subst hne
        clear hd hd' hx hy hj hi
        go_wp2
        go_quiet (fail)
        go_wp2
        go_roundw
        case rel => exact ⟨k + 1, (i : Int) - 1, by omega, by have := HJ.out; omega, by go_num, HD.out, h0.drewN _, h1.drewN _, bel_dN hBl _⟩
        case measure => simp [intOf]
      · have hv := lt_at ha hb la lb (i := i) (by omega) hd (by rw [← hx, ← hy]; exact hne)
        rw [← hx, ← hy] at hv
        have hrr : decide (x < y) = r := by rw [HR.out]; simp only [hv]
        have HRR : Hid _ := hrr
        have hne' : (x != y) = true := by simp [hne]
        clear hd hx hy hj hi hv hrr
        go_wp2
        go_quiet (fail)
        go_wp2
        go_quiet (fail)
        go_wp2
        go_ret
        refine ⟨?_, bel_dN (bel_dN hBl _) _⟩
        rw [← HRR.out]
        rfl
    · obtain rfl : k = 16 := by omega
      have hj0 : ¬ (0 : Int) ≤ j := by omega
      have hab : a = b := by simpa using hd
      have hrf : r = false := by rw [HR.out, hab]; simp
      clear hd hj
      go_wp2
      go_ret
      exact ⟨rfl, hBl⟩
end Go.Proofs.YtlafcjoccbinaaaDoor
namespace Go.Proofs.YtlafcjoccbinaaaDoor
open Go.RowKit
set_option maxRecDepth 100000

set_option maxHeartbeats 2000000 in
theorem specTake (a b : List Int) (w : World) (ha : a.length = 16) (hb : b.length = 16) (la : Lm a) (lb : Lm b) :
    Calls Tryd.prog 77 #[.agg (I64 a).toArray, .agg (I64 b).toArray] w fun e w' => e = .returned (.agg (I64 (tk16 a b)).toArray) ∧ Below w.heap.size w w' := by
  obtain ⟨A, hA⟩ : ∃ A, A = (I64 a).toArray := ⟨_, rfl⟩
  obtain ⟨B, hB⟩ : ∃ B, B = (I64 b).toArray := ⟨_, rfl⟩
  rw [← hA, ← hB]
  obtain ⟨W, hW⟩ : ∃ W, W = ((w.alloc (.cells A 66)).alloc (.cells B 66)).alloc (.cells (I64 Z16).toArray 66) := ⟨_, rfl⟩
  have h0 : Arr W w.heap.size 66 (I64 a) := by rw [hW, hA]; exact ((Arr.new w (I64 a) _).alloc _).alloc _
  have h1 : Arr W (w.heap.size + 1) 66 (I64 b) := by
    rw [hW, hB]
    have := (Arr.new (w.alloc (.cells A 66)) (I64 b) 66).alloc (.cells (I64 Z16).toArray 66)
    rw [World.size_alloc] at this
    exact this
  have h2 : Arr W (w.heap.size + 2) 66 (I64 Z16) := by
    rw [hW]
    have := Arr.new ((w.alloc (.cells A 66)).alloc (.cells B 66)) (I64 Z16) 66
    rw [World.size_alloc, World.size_alloc] at this
    exact this
  have hBl : Below w.heap.size w W := by rw [hW]; exact (((Below.refl _ _).alloc (Nat.le_refl _) _).alloc (by simp) _).alloc (by simp; omega) _
  obtain ⟨zs, hzs⟩ : ∃ zs, zs = List.zipWith (fun x y => x - y) a b := ⟨_, rfl⟩
  have hzl : zs.length = 16 := by rw [hzs]; simp [ha, hb]
  have hcc : ∀ k, cpc (zs.take k) 0 = 0 ∨ cpc (zs.take k) 0 = -1 := by
    intro k
    rw [hzs, List.take_zipWith]
    exact cpc_sub (fun x hx => la x (List.mem_of_mem_take hx)) (fun x hx => lb x (List.mem_of_mem_take hx)) (.inl rfl)
  have htk : tk16 a b = cps zs 0 := by unfold tk16; rw [hzs]
  have hzg : ∀ k, k < 16 → zs.getD k 0 = a.getD k 0 - b.getD k 0 := by
    intro k hk
    rw [hzs]
    simp [List.getD, List.getElem?_zipWith, show k < a.length by omega, show k < b.length by omega]
  have HT : Hid _ := htk
  have HZG : Hid _ := hzg
  have HCC : Hid _ := hcc
  clear hzs htk hzg hcc hA hB
  go_enter Tryd.func77, Tryd.ntmps77
  go_wp2
  go_loopw [5, 6] (fun c i wr => ∃ (k : Nat) (d : Int), k ≤ 16 ∧ c = .int .i64 d ∧ d = -(cpc (zs.take k) 0) ∧ i = .int .i64 k ∧ Arr wr w.heap.size 66 (I64 (cps (zs.take k) 0 ++ a.drop k)) ∧ Arr wr (w.heap.size + 1) 66 (I64 b) ∧ Arr wr (w.heap.size + 2) 66 (I64 Z16) ∧ Below w.heap.size w wr) (fun _ i _ => 16 - (intOf i).toNat)
  case atStart => exact ⟨0, 0, by omega, rfl, by simp [cpc], rfl, by simpa [cps] using (hW ▸ h0), hW ▸ h1, hW ▸ h2, hW ▸ hBl⟩
  case round =>
    clear h0 h1 h2 hBl hW
    obtain ⟨k, d, hk, rfl, hd, rfl, h0, h1, h2, hBl⟩ := hrel
    have hfl : (cps (zs.take k) 0).length = k := by rw [cps_len]; simp; omega
    by_cases hlt : k < 16
    · obtain ⟨x, hx⟩ : ∃ x, x = a.getD k 0 := ⟨_, rfl⟩
      obtain ⟨y, hy⟩ : ∃ y, y = b.getD k 0 := ⟨_, rfl⟩
      have cx : wr.cell? ⟨w.heap.size, k, none⟩ = some (.int .i64 x) := by
        rw [h0.i64 k (by rw [len_app hfl (by omega)]; omega), get_app hfl, hx]
      have cy : wr.cell? ⟨w.heap.size + 1, k, none⟩ = some (.int .i64 y) := by rw [hy]; exact h1.i64 k (by omega)
      have bx := gD_lm la k
      have by' := gD_lm lb k
      rw [← hx] at bx
      rw [← hy] at by'
      have hc := HCC.out k
      have hz := HZG.out k hlt
      rw [← hx, ← hy] at hz
      have hts := take_app zs k (by omega)
      rw [hz] at hts
      have hs1 : cps (zs.take (k + 1)) 0 = cps (zs.take k) 0 ++ [(x - y + cpc (zs.take k) 0) % 65536] := by rw [hts, cps_snoc]
      have hs2 : cpc (zs.take (k + 1)) 0 = (x - y + cpc (zs.take k) 0) / 65536 := by rw [hts, cpc_snoc]
      have hk16 : (k : Int) < 16 := by omega
      have hfz := h0.frozen k
      have hset := fun v => h0.set k (.int .i64 v)
      have h1s := fun v => h1.other ⟨w.heap.size, k, none⟩ (.int .i64 v) (by simp)
      have h2s := fun v => h2.other ⟨w.heap.size, k, none⟩ (.int .i64 v) (by simp)
      have hbs := fun v => hBl.setCell (p := ⟨w.heap.size, k, none⟩) (Nat.le_refl _) (.int .i64 v)
      simp only [set_app hfl (show k < a.length by omega)] at hset
      have w1 : IntKind.i64.wrap (x - y) = x - y := by rw [IntKind.wrap_i64]; omega
      obtain ⟨z, hzz⟩ : ∃ z, z = x - y - d := ⟨_, rfl⟩
      have w2 : IntKind.i64.wrap (x - y - d) = z := by rw [IntKind.wrap_i64, hzz]; omega
      have HS1 : Hid _ := hs1
      have HS2 : Hid _ := hs2
      have HD : Hid _ := hd
      have HZZ : Hid _ := hzz
      have HSET : Hid _ := hset
      have H1S : Hid _ := h1s
      have H2S : Hid _ := h2s
      have HBS : Hid _ := hbs
      have hzb : -65536 ≤ z ∧ z < 65536 := by omega
      clear hs1 hs2 hd hzz hset h1s h2s hbs hts hz hx hy h0 h1 h2 hBl hc
      go_wp2
      go_quiet (fail)
      rename_i nq
      by_cases hneg : z < 0
      · have w3 : IntKind.i64.wrap (z + 65536) = z + 65536 := by rw [IntKind.wrap_i64]; omega
        go_wp2
        go_roundw
        case rel =>
          refine ⟨k + 1, 1, by omega, rfl, ?_, by go_num, ?_, (H1S.out _).drewN _, (H2S.out _).drewN _, bel_dN (HBS.out _) _⟩
          · have e := HS2.out; have e1 := HD.out; have e2 := HZZ.out; omega
          · have e := HS1.out; have e1 := HD.out; have e2 := HZZ.out
            rw [e, show (x - y + cpc (zs.take k) 0) % 65536 = z + 65536 by omega]
            exact (HSET.out _).drewN _
        case measure => simp [intOf]; omega
      · go_wp2
        go_roundw
        case rel =>
          refine ⟨k + 1, 0, by omega, rfl, ?_, by go_num, ?_, (H1S.out _).drewN _, (H2S.out _).drewN _, bel_dN (HBS.out _) _⟩
          · have e := HS2.out; have e1 := HD.out; have e2 := HZZ.out; omega
          · have e := HS1.out; have e1 := HD.out; have e2 := HZZ.out
            rw [e, show (x - y + cpc (zs.take k) 0) % 65536 = z by omega]
            exact (HSET.out _).drewN _
        case measure => simp [intOf]; omega
    · obtain rfl : k = 16 := by omega
      have e : cps (zs.take 16) 0 ++ a.drop 16 = tk16 a b := by
        rw [HT.out, List.take_of_length_le (by omega), List.drop_eq_nil_of_le (by omega)]; simp
      rw [e] at h0
      have hl : (tk16 a b).length = 16 := by rw [HT.out, cps_len, hzl]
      obtain ⟨y, hy⟩ : ∃ y, y = tk16 a b := ⟨_, rfl⟩
      rw [← hy] at h0 hl
      have HY : Hid _ := hy
      have h2' := h2.row (I64 y)
      have hb' := setRow_below hBl (w.heap.size + 2) (I64 y).toArray (by omega)
      clear e hy hd hfl
      go_wp2_with (first
        | (refine wpList_load_row rfl 66 _ rfl w.heap.size rfl 66 (I64 y).toArray (0, 0) _ h0 Tryd.underlying66 rfl (by simpa [hl] using infoE) ?_)
        | (refine wpList_store_row rfl 66 _ _ rfl (w.heap.size + 2) (I64 y).toArray rfl rfl 66 _ h2 (by simpa [hl] using infoE) (by simp [hl]) (by simp [Value.oneCell']) ?_))
      exact bodyPost_ret (results_cell_row rfl _ _ (w.heap.size + 2) 66 (I64 y).toArray (0, 0) _ rfl h2' Tryd.underlying66 rfl (by simpa [hl] using infoE)) rfl ⟨by rw [HY.out], hb'⟩
end Go.Proofs.YtlafcjoccbinaaaDoor
namespace Go.Proofs.YtlafcjoccbinaaaDoor
open Go.RowKit
set_option maxRecDepth 100000

def setV (cs : List Value) : Nat → List Value → List Value
  | _, [] => cs
  | j, v :: vs => setV (cs.set j v) (j + 1) vs
theorem setV_eq : ∀ (vs pre : List Value) (cs : List Value), cs.length = vs.length → setV (pre ++ cs) pre.length vs = pre ++ vs
  | [], pre, cs, h => by
    have : cs = [] := List.eq_nil_of_length_eq_zero (by simpa using h)
    simp [setV, this]
  | v :: vs, pre, c :: cs, h => by
    have := setV_eq vs (pre ++ [v]) cs (by simpa using h)
    simp only [setV]
    rw [show (pre ++ c :: cs).set pre.length v = (pre ++ [v]) ++ cs by simp]
    simpa using this
  | _ :: _, _, [], h => by simp at h
theorem Arr.setCells {g : Nat} {t : TypeId} : ∀ (vs : List Value) {w : World} {cs : List Value} (j : Nat), Arr w g t cs → Arr (w.setCells g j vs) g t (setV cs j vs)
  | [], _, _, _, h => h
  | v :: vs, _, _, j, h => Arr.setCells vs (j + 1) (h.set j v)
theorem Arr.setCells0 {w : World} {g : Nat} {t : TypeId} {cs vs : List Value} (h : Arr w g t cs) (hl : cs.length = vs.length) : Arr (w.setCells g 0 vs) g t vs := by
  have := Arr.setCells vs 0 h
  rw [show setV cs 0 vs = vs from setV_eq vs [] cs hl] at this
  exact this
theorem Arr.setCellsO {g k : Nat} {t : TypeId} (hne : k ≠ g) : ∀ (vs : List Value) {w : World} {cs : List Value} (j : Nat), Arr w k t cs → Arr (w.setCells g j vs) k t cs
  | [], _, _, _, h => h
  | v :: vs, _, _, j, h => Arr.setCellsO hne vs (j + 1) (h.other ⟨g, j, none⟩ v hne)
theorem setCells_below {B g : Nat} {w0 : World} (hg : B ≤ g) : ∀ (vs : List Value) {w : World} (j : Nat), Below B w0 w → Below B w0 (w.setCells g j vs)
  | [], _, _, h => h
  | v :: vs, _, j, h => setCells_below hg vs (j + 1) (h.setCell (p := ⟨g, j, none⟩) hg v)
theorem arr_there {W : World} {g : Nat} {t : TypeId} {cs : List Value} (h : Arr W g t cs) : W.there g 0 cs.length := by
  intro j hj
  rw [Nat.zero_add]
  refine ⟨?_, h.frozen j⟩
  rw [h.cell j, List.getElem?_eq_getElem hj]
  rfl

theorem store_arr {P : Program} {W : World} {g : Nat} {t : TypeId} {cs vs : List Value} (h : Arr W g t cs) (hl : cs.length = vs.length) (h1 : ∀ v ∈ vs, v.oneCell' = true) : (storeCells ⟨g, 0, none⟩ vs).run P W = .ok () (W.setCells g 0 vs) :=
  run_storeCells_cells g 0 vs 0 W (fun j hj => by have := (arr_there h j (by omega)).1; simpa using this) (fun j _ => by simpa using h.frozen (0 + 0 + j)) h1
end Go.Proofs.YtlafcjoccbinaaaDoor

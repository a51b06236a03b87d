/-
  What is proved here: the contract of the specification's l5mul: the product of two multipliers; a value that comes up alone in a region that draws its order, its place told; no program is spoken of, no condition; the contract of the specification's l7sign; what a signature is made of.
-/
import Derived.Test.YtihoaakbkffejaaGreatDoorSKe
import Derived.Laws.MakeOwn
import Derived.Test.YtihoaakbkffejaaGreatDoorSFm
import Derived.Test.YtihoaakbkffejaaGreatDoorSTm
import Derived.Test.YtihoaakbkffejaaGreatDoorSVm
import Derived.Test.YtihoaakbkffejaaGreatDoorSUff
namespace Go.Proofs.YtihoaakbkffejaaGreatDoor
open Go.RowKit
set_option maxRecDepth 100000

theorem mul_p {x y : Int} (hx0 : 0 ≤ x) (hx1 : x < 65536) (hy0 : 0 ≤ y) (hy1 : y < 65536) : 0 ≤ x * y ∧ x * y ≤ 4294836225 := by
  refine ⟨Int.mul_nonneg hx0 hy0, ?_⟩
  have h1 : x * y ≤ 65535 * y := Int.mul_le_mul_of_nonneg_right (by omega) hy0
  omega
/-- The table of a product in 33 parts: its worth, and how great its parts may be. -/
structure Tr (a b t : List Int) (i k : Nat) : Prop where
  len : t.length = 33
  vl : val t = prodAt a b i k
  le : ∀ x ∈ t, 0 ≤ x ∧ x ≤ (16 * (i : Int) + (k : Int)) * 4294836225
theorem Tr.get {a b t : List Int} {i k : Nat} (h : Tr a b t i k) (j : Nat) : 0 ≤ t.getD j 0 ∧ t.getD j 0 ≤ (16 * (i : Int) + (k : Int)) * 4294836225 := by
  by_cases hj : j < t.length
  · have : t.getD j 0 ∈ t := by rw [List.getD_eq_getElem?_getD, List.getElem?_eq_getElem hj]; exact List.getElem_mem _
    exact h.le _ this
  · rw [List.getD_eq_getElem?_getD, List.getElem?_eq_none (by omega)]; simp; omega
theorem Tr.step {a b t : List Int} {i k : Nat} (h : Tr a b t i k) (hi : i < 16) (hk : k < b.length) (hk16 : k < 16) {p : Int} (hp : p = a.getD i 0 * b.getD k 0) (hp0 : 0 ≤ p) (hp1 : p ≤ 4294836225) : Tr a b (t.set (i + k) (t.getD (i + k) 0 + p)) i (k + 1) := by
  have hl := h.len
  have hg := h.get (i + k)
  refine ⟨by simp [hl], ?_, ?_⟩
  · rw [val_set t (i + k) (by omega), h.vl, prodAt_step a b i k hk, hp]
    congr 2
    omega
  · intro x hx
    rcases List.mem_or_eq_of_mem_set hx with h1 | h1
    · have := h.le x h1
      simp only [Int.natCast_add, Int.natCast_one]
      omega
    · subst h1
      simp only [Int.natCast_add, Int.natCast_one]
      omega
theorem Tr.row {a b t : List Int} {i : Nat} (h : Tr a b t i 16) (hb : b.length = 16) (hi : i < a.length) : Tr a b t (i + 1) 0 := by
  refine ⟨h.len, ?_, fun x hx => ?_⟩
  · rw [h.vl, ← prodAt_row a b i hi, hb]
  · have := h.le x hx
    simp only [Int.natCast_add, Int.natCast_one] at this ⊢
    omega
abbrev Z33 : List Int := List.replicate 33 0
theorem Tr.zero (a b : List Int) : Tr a b Z33 0 0 := by
  refine ⟨rfl, ?_, ?_⟩
  · have : val Z33 = 0 := by decide
    rw [this]; simp [prodAt, val]
  · intro x hx
    have : x = 0 := by simpa using List.eq_of_mem_replicate hx
    omega
theorem cpc_gr {l : List Int} (h : ∀ x ∈ l, 0 ≤ x ∧ x < 70368744177664) : ∀ {c : Int}, 0 ≤ c → c ≤ 2147483648 → 0 ≤ cpc l c ∧ cpc l c ≤ 2147483648 := by
  induction l with
  | nil => intro c h0 h1; exact ⟨h0, h1⟩
  | cons x l ih =>
    intro c h0 h1
    have hx := h x (by simp)
    exact ih (fun y hy => h y (by simp [hy])) (by omega) (by omega)
theorem prod_lt {x y : Int} (hx0 : 0 ≤ x) (hx1 : x < 115792089237316195423570985008687907853269984665640564039457584007913129639936) (hy0 : 0 ≤ y) (hy1 : y < 115792089237316195423570985008687907853269984665640564039457584007913129639936) : 0 ≤ x * y ∧ x * y < 65536 ^ 33 := by
  refine ⟨Int.mul_nonneg hx0 hy0, ?_⟩
  have h1 : x * y ≤ 115792089237316195423570985008687907853269984665640564039457584007913129639936 * y := Int.mul_le_mul_of_nonneg_right (by omega) hy0
  have h2 : (65536 : Int) ^ 33 = 65536 * (115792089237316195423570985008687907853269984665640564039457584007913129639936 * 115792089237316195423570985008687907853269984665640564039457584007913129639936) := by decide
  rw [h2]
  omega

set_option maxHeartbeats 4000000 in
theorem specScMul16 (a b : List Int) (w : World) (ha : a.length = 16) (hb : b.length = 16) (la : Lm a) (lb : Lm b) :
    Calls Tryz.prog 92 #[.agg (I64 a).toArray, .agg (I64 b).toArray] w fun e w' => e = .returned (.agg (I64 (redO (val a * val b))).toArray) ∧ Below w.heap.size w w' := by
  have va := val_lt la
  have vb := val_lt lb
  rw [ha, p256] at va
  rw [hb, p256] at vb
  have hpv := prod_lt (val_nonneg (fun x hx => (la x hx).1)) va (val_nonneg (fun x hx => (lb x hx).1)) vb
  have HV : Hid (val (lim 33 (val a * val b)) = val a * val b) := by unfold Hid; rw [val_lim, Int.emod_eq_of_lt hpv.1 hpv.2]
  obtain ⟨C, hC⟩ : ∃ C : Array Value, C = (I64 Z33).toArray := ⟨_, rfl⟩
  have hmk : ∀ Z : World, (Instr.makeSlice 29 (.int .i64 33) (.int .i64 33)).run Tryz.prog Z = .ok (.slice (some ⟨Z.heap.size, 0, none⟩) 33 33) (Z.alloc (.cells C 3)) := by
    intro Z
    obtain ⟨i0, hi, hz0, hz1, hz2⟩ := info_parts Tryz.info3
    have := run_make (P := Tryz.prog) Z 29 3 i0 (.int .i64 0) Tryz.underlying29 hi hz0 .i64 .i64 33 33 (by omega) (by omega) (by rw [hz2]; omega) (by omega)
    rw [this, hz1, show madeCells (Value.int .i64 0).cells (Int.toNat 33 * 1) = C by rw [hC]; kernel_rfl]
    rfl
  obtain ⟨W, hW⟩ : ∃ W, W = (((w.alloc (.cells (I64 a).toArray 80)).alloc (.cells (I64 b).toArray 80)).alloc (.cells #[.int .i64 0, .int .i64 0, .int .i64 0, .int .i64 0, .int .i64 0, .int .i64 0, .int .i64 0, .int .i64 0, .int .i64 0, .int .i64 0, .int .i64 0, .int .i64 0, .int .i64 0, .int .i64 0, .int .i64 0, .int .i64 0] 80)).alloc (.cells C 3) := ⟨_, rfl⟩
  have h0 : Arr W w.heap.size 80 (I64 a) := by rw [hW]; exact (((Arr.new w (I64 a) _).alloc _).alloc _).alloc _
  have h1 : Arr W (w.heap.size + 1) 80 (I64 b) := by
    rw [hW]
    have := ((Arr.new (w.alloc (.cells (I64 a).toArray 80)) (I64 b) 80).alloc (.cells (I64 Z16).toArray 80)).alloc (.cells C 3)
    rw [World.size_alloc] at this
    exact this
  have h2 : Arr W (w.heap.size + 2) 80 (I64 Z16) := by
    rw [hW]
    have := (Arr.new ((w.alloc (.cells (I64 a).toArray 80)).alloc (.cells (I64 b).toArray 80)) (I64 Z16) 80).alloc (.cells C 3)
    rw [World.size_alloc, World.size_alloc] at this
    exact this
  have h3 : Arr W (w.heap.size + 3) 3 (I64 Z33) := by
    rw [hW, hC]
    have := Arr.new (((w.alloc (.cells (I64 a).toArray 80)).alloc (.cells (I64 b).toArray 80)).alloc (.cells (I64 Z16).toArray 80)) (I64 Z33) 3
    rw [World.size_alloc, World.size_alloc, World.size_alloc] at this
    exact this
  have hBl : Below w.heap.size w W := by rw [hW]; exact ((((Below.refl _ _).alloc (Nat.le_refl _) _).alloc (by simp) _).alloc (by simp; omega) _).alloc (by simp; omega) _
  obtain ⟨A, hA⟩ : ∃ A, A = (I64 a).toArray := ⟨_, rfl⟩
  obtain ⟨B, hB⟩ : ∃ B, B = (I64 b).toArray := ⟨_, rfl⟩
  rw [← hA, ← hB] at hW ⊢
  clear hA hB hC va vb hpv
  go_enter Tryz.func92, Tryz.ntmps92
  go_wp2
  rw [← hW]
  clear hW hmk
  go_loopw [6] (fun i wr => ∃ (k : Nat) (t : List Int), k ≤ 16 ∧ i = .int .i64 k ∧ Tr a b t k 0 ∧ Arr wr w.heap.size 80 (I64 a) ∧ Arr wr (w.heap.size + 1) 80 (I64 b) ∧ Arr wr (w.heap.size + 2) 80 (I64 Z16) ∧ Arr wr (w.heap.size + 3) 3 (I64 t) ∧ Below w.heap.size w wr) (fun i _ => 16 - (intOf i).toNat)
  case atStart => exact ⟨0, Z33, by omega, rfl, Tr.zero a b, h0, h1, h2, h3, hBl⟩
  case round =>
    clear h0 h1 h2 h3 hBl
    obtain ⟨i, t, hi, rfl, TP, h0, h1, h2, h3, hBl⟩ := hrel
    by_cases hi16 : i < 16
    · have hi' : (i : Int) < 16 := by omega
      go_wp2
      go_loopw [7] (fun c wr => ∃ (k : Nat) (t : List Int), k ≤ 16 ∧ c = .int .i64 k ∧ Tr a b t i k ∧ Arr wr w.heap.size 80 (I64 a) ∧ Arr wr (w.heap.size + 1) 80 (I64 b) ∧ Arr wr (w.heap.size + 2) 80 (I64 Z16) ∧ Arr wr (w.heap.size + 3) 3 (I64 t) ∧ Below w.heap.size w wr) (fun c _ => 16 - (intOf c).toNat)
      case atStart => exact ⟨0, t, by omega, rfl, TP, h0, h1, h2, h3, hBl⟩
      case round =>
        clear h0 h1 h2 h3 hBl TP t
        obtain ⟨k, t, hk, rfl, TP, h0, h1, h2, h3, hBl⟩ := hrel
        by_cases hk16 : k < 16
        · obtain ⟨x, hx⟩ : ∃ x, x = a.getD i 0 := ⟨_, rfl⟩
          obtain ⟨y, hy⟩ : ∃ y, y = b.getD k 0 := ⟨_, rfl⟩
          obtain ⟨z, hz⟩ : ∃ z, z = t.getD (i + k) 0 := ⟨_, rfl⟩
          have bx := gD_lm la i
          have by' := gD_lm lb k
          have bz := TP.get (i + k)
          rw [← hx] at bx
          rw [← hy] at by'
          rw [← hz] at bz
          have cx : wr.cell? ⟨w.heap.size, i, none⟩ = some (.int .i64 x) := by rw [hx]; exact h0.i64 i (by omega)
          have cy : wr.cell? ⟨w.heap.size + 1, k, none⟩ = some (.int .i64 y) := by rw [hy]; exact h1.i64 k (by omega)
          have htl := TP.len
          have cz : wr.cell? ⟨w.heap.size + 3, i + k, none⟩ = some (.int .i64 z) := by rw [hz]; exact h3.i64 (i + k) (by omega)
          have hpb := mul_p bx.1 bx.2 by'.1 by'.2
          have TP2 := TP.step hi16 (by omega) hk16 (p := x * y) (by rw [hx, hy]) hpb.1 hpb.2
          rw [← hz] at TP2
          obtain ⟨p, hp⟩ : ∃ p, p = x * y := ⟨_, rfl⟩
          rw [← hp] at TP2 hpb
          have s0 : IntKind.i64.wrap (x * y) = p := by rw [← hp, IntKind.wrap_i64]; omega
          have s1 : IntKind.i64.wrap (z + p) = z + p := by rw [IntKind.wrap_i64]; omega
          have s2 : IntKind.i64.wrap ((i : Int) + (k : Int)) = (i : Int) + (k : Int) := by rw [IntKind.wrap_i64]; omega
          have s3 : ((i : Int) + (k : Int)).toNat = i + k := by omega
          have s4 : (i : Int) + (k : Int) < 33 := by omega
          have s5 : (0 : Int) ≤ (i : Int) + (k : Int) := by omega
          have s6 : (0 : Int) ≤ (i : Int) := by omega
          have s7 : (0 : Int) ≤ (k : Int) := by omega
          have hk' : (k : Int) < 16 := by omega
          have hfz := h3.frozen (i + k)
          have e : (I64 t).set (i + k) (.int .i64 (z + p)) = I64 (t.set (i + k) (z + p)) := by simp
          have h3' := h3.set (i + k) (.int .i64 (z + p))
          rw [e] at h3'
          have h0' := h0.other ⟨w.heap.size + 3, i + k, none⟩ (.int .i64 (z + p)) (by simp)
          have h1' := h1.other ⟨w.heap.size + 3, i + k, none⟩ (.int .i64 (z + p)) (by simp)
          have h2' := h2.other ⟨w.heap.size + 3, i + k, none⟩ (.int .i64 (z + p)) (by simp)
          have hb' := hBl.setCell (p := ⟨w.heap.size + 3, i + k, none⟩) (by simp) (.int .i64 (z + p))
          have H0 : Hid _ := h0'.drew
          have H1 : Hid _ := h1'.drew
          have H2 : Hid _ := h2'.drew
          have H3 : Hid _ := h3'.drew
          have HB : Hid _ := hb'.drew
          have HT : Hid _ := TP2
          clear h0' h1' h2' h3' hb' e h0 h1 h2 h3 hBl hx hy hz TP TP2 hp htl
          go_wp2
          go_region
          clear cx cy cz hfz
          go_wp2
          go_roundw
          case rel => exact ⟨k + 1, _, by omega, by go_num, HT.out, H0.out, H1.out, H2.out, H3.out, HB.out⟩
          case measure => simp [intOf]; omega
        · obtain rfl : k = 16 := by omega
          have TP2 := TP.row hb (by omega)
          clear TP
          go_wp2
          go_roundw
          case rel => exact ⟨i + 1, t, by omega, by go_num, TP2, h0, h1, h2, h3, hBl⟩
          case measure => simp [intOf]; omega
    · obtain rfl : i = 16 := by omega
      have htl := TP.len
      have htv : cps t 0 = lim 33 (val a * val b) := by rw [cps_lim, htl, TP.vl, prodAt_end a b ha, Int.add_zero]
      have htg : ∀ x ∈ t, 0 ≤ x ∧ x < 70368744177664 := fun x hx => by have := TP.le x hx; omega
      have htb := fun k => TP.get k
      have HTV : Hid _ := htv
      have HTB : Hid _ := htb
      clear TP h0 h1 htv htb
      go_wp2
      go_loopw [8, 9] (fun c i wr => ∃ (k : Nat) (d : Int), k ≤ 33 ∧ c = .int .i64 d ∧ d = cpc (t.take k) 0 ∧ i = .int .i64 k ∧ Arr wr (w.heap.size + 2) 80 (I64 Z16) ∧ Arr wr (w.heap.size + 3) 3 (I64 (cps (t.take k) 0 ++ t.drop k)) ∧ Below w.heap.size w wr) (fun _ i _ => 33 - (intOf i).toNat)
      case atStart => exact ⟨0, 0, by omega, rfl, by simp [cpc], rfl, h2, h3, hBl⟩
      case round =>
        clear h2 h3 hBl
        obtain ⟨k, d, hk, rfl, hd, rfl, h2, h3, hBl⟩ := hrel
        have hfl : (cps (t.take k) 0).length = k := by rw [cps_len]; simp; omega
        have hdb := cpc_gr (l := t.take k) (fun x hx => htg x (List.mem_of_mem_take hx)) (c := 0) (by omega) (by omega)
        rw [← hd] at hdb
        by_cases hlt : k < 33
        · obtain ⟨x, hx⟩ : ∃ x, x = t.getD k 0 := ⟨_, rfl⟩
          have bx := HTB.out k
          rw [← hx] at bx
          have cx : wr.cell? ⟨w.heap.size + 3, k, none⟩ = some (.int .i64 x) := by
            rw [h3.i64 k (by rw [len_app hfl (by omega)]; omega), get_app hfl, hx]
          have hts := take_app t k (by omega)
          rw [← hx] at hts
          have hs1 : cps (t.take (k + 1)) 0 = cps (t.take k) 0 ++ [(x + d) % 65536] := by rw [hts, cps_snoc, hd]
          have hs2 : cpc (t.take (k + 1)) 0 = (x + d) / 65536 := by rw [hts, cpc_snoc, hd]
          have hk16 : (k : Int) < 33 := by omega
          have hk0 : (0 : Int) ≤ (k : Int) := by omega
          have hfz := h3.frozen k
          have h3' := h3.set k (.int .i64 ((x + d) % 65536))
          rw [set_app hfl (show k < t.length by omega), ← hs1] at h3'
          have h2' := h2.other ⟨w.heap.size + 3, k, none⟩ (.int .i64 ((x + d) % 65536)) (by simp)
          have hb' := hBl.setCell (p := ⟨w.heap.size + 3, k, none⟩) (by simp) (.int .i64 ((x + d) % 65536))
          have s1 : IntKind.i64.wrap (x + d) = x + d := by rw [IntKind.wrap_i64]; omega
          have s2 : bits .and .i64 (x + d) 65535 = (x + d) % 65536 := i64_low16 (by omega) (by omega)
          have H2 : Hid _ := h2'
          have H3 : Hid _ := h3'
          have HB : Hid _ := hb'
          have HC : Hid _ := hs2
          clear h3' h2' hb' h2 h3 hBl hx hd hts hs1 hs2
          go_wp2
          go_roundw
          case rel => exact ⟨k + 1, (x + d) / 65536, by omega, rfl, HC.out.symm, by go_num, H2.out, H3.out, HB.out⟩
          case measure => simp [intOf]; omega
        · obtain rfl : k = 33 := by omega
          rw [List.take_of_length_le (by omega), List.drop_eq_nil_of_le (by omega), List.append_nil, HTV.out] at h3
          have hLl : (lim 33 (val a * val b)).length = 33 := lim_len _ _
          have hLm : Lm (lim 33 (val a * val b)) := lim_lm _ _
          have hres := HV.out
          obtain ⟨L, hL⟩ : ∃ L, L = lim 33 (val a * val b) := ⟨_, rfl⟩
          rw [← hL] at h3 hLl hLm hres
          have hIs : Is wr (some ⟨w.heap.size + 3, 0, none⟩) 33 33 L := ⟨(fun h => by cases h), hLl, Nat.le_refl _, fun x hx => by have := hLm x hx; omega, .inr ⟨w.heap.size + 3, 0, rfl, h3.lt, fun j hj => by simpa using h3.i64 j (by omega)⟩⟩
          have HM := specMod (some ⟨w.heap.size + 3, 0, none⟩) 33 33 L wr hIs hLm (by omega)
          rw [hres] at HM
          have HM' : Hid (Calls Tryz.prog 121 #[.slice (some ⟨w.heap.size + 3, 0, none⟩) 33 33] wr fun e w' => e = .returned (.agg (I64 (redO (val a * val b))).toArray) ∧ Below wr.heap.size wr w') := HM
          clear HM hIs hL hLl hLm hres hfl hd hdb h3 HTV HTB
          go_wp2_with fail
          refine HM'.out.mono ?_
          rintro e w5 ⟨rfl, hb5⟩
          have h25 := h2.kept hb5
          have hB5 := hBl.trans (hb5.mono hBl.size)
          have hRl := redO_len (val a * val b)
          obtain ⟨R, hR⟩ : ∃ R, R = redO (val a * val b) := ⟨_, rfl⟩
          rw [← hR] at hRl ⊢
          have hir : (Tryz.prog.info? 80).map (·.size) = some (I64 R).toArray.size := by simpa [hRl] using infoE
          have HR : Hid _ := hR
          have hr := h25.row (I64 R)
          have hbl := setRow_below hB5 (w.heap.size + 2) (I64 R).toArray (by omega)
          clear hR h2 hBl hb5 HM'
          go_wp2_with (refine wpList_store_row rfl 80 _ _ rfl (w.heap.size + 2) (I64 R).toArray rfl rfl 80 _ h25 hir (by simp [hRl]) (by simp [Value.oneCell']) ?_)
          exact bodyPost_ret (results_cell_row rfl _ _ (w.heap.size + 2) 80 (I64 R).toArray (0, 0) _ rfl hr Tryz.underlying80 rfl hir) rfl ⟨by rw [HR.out], hbl⟩
end Go.Proofs.YtihoaakbkffejaaGreatDoor
namespace Go.Proofs.YtihoaakbkffejaaGreatDoor
open Go.RowKit

theorem st_setd {P : Program} {ops : Array Oper} {Q : Exit → Act → World → Prop} {listed : Array Bool} {fuel i : Nat} {o : Oper} {d : Nat} {a : Act} {w : World} {v : Value} (hr : Region.ready .any ops listed = [i]) (ho : ops[i]? = some o) (hg : o.guard = none) (hd : o.dst = some d) (hx : (execOp a.eval o).run P w = .ok (.value v) w)
    (h : wpAny P .any ops Q fuel (listed.setIfInBounds i true) ⟨a.tmps.setIfInBounds d v, a.defers⟩ w) : wpAny P .any ops Q (fuel + 1) listed a w :=
  st_set hr ho hg hx (by rw [hd]; exact h)
end Go.Proofs.YtihoaakbkffejaaGreatDoor
namespace Go.Proofs.YtihoaakbkffejaaGreatDoor
open Go.RowKit
set_option maxRecDepth 100000

/-- The two halves of a signature. -/
def sgR (seed msg : List Int) : List Int := mS ((sumOfW seed).drop 32 ++ msg)
def sgF (seed msg : List Int) : List Int := baseB (val (sgR seed msg)).toNat
def sgK (seed msg : List Int) : List Int := mS (sgF seed msg ++ baseB (val (sA seed)).toNat ++ msg)
def sgS (seed msg : List Int) : List Int := redO (val (sgR seed msg) + val (redO (val (sgK seed msg) * val (redO (val (sA seed))))))
def sgB (seed msg : List Int) : List Int := sgF seed msg ++ btL (sgS seed msg)
theorem mS_ok (xs : List Int) : scOk (mS xs) = true := redO_ok _
theorem sgB_len (seed msg : List Int) : (sgB seed msg).length = 64 := by
 unfold sgB sgF sgS
 rw [List.length_append, baseB_len, btL_len, redO_len]
theorem sgB_byte (seed msg : List Int) : ∀ x ∈ sgB seed msg, 0 ≤ x ∧ x < 256 := app_byte (baseB_byte _) (btL_byte (redO_lm _))
def snOk (seed msg : List Int) : Bool := decide (seed.length = 32) && decide (msg.length ≤ 2000)
def snL (seed msg : List Int) : List Int := if snOk seed msg = true then sgB seed msg else []
theorem snL_byte (seed msg : List Int) : ∀ x ∈ snL seed msg, 0 ≤ x ∧ x < 256 := by
 unfold snL; split
 ·exact sgB_byte _ _
 ·intro x hx; cases hx
theorem snL_len (seed msg : List Int) : (snL seed msg).length ≤ 64 := by
 unfold snL; split
 ·rw [sgB_len]; omega
 ·simp
/-- l5wide of l3sum. -/
theorem specHash (a : Option Addr) (n c : Nat) (xs : List Int) (Z : World) (h : Bs Z a n c xs) (hn : n ≤ 20000) : Calls Tryz.prog 73 #[.slice a n c] Z fun e w' => ∃ a' c', e = .returned (.slice a' 64 c') ∧ Bs w' a' 64 c' (sumOfW xs) ∧ Below Z.heap.size Z w' := by
 refine (specL3sum a n c xs Z h hn).mono ?_
 rintro e w' ⟨v, rfl, ho, hb⟩
 obtain ⟨a', c', rfl, _, hB⟩ := Bs.own ho (sumOfW_byte _)
 exact ⟨a', c', rfl, hB, hb⟩

set_option maxHeartbeats 8000000 in
theorem specL7sign (a : Option Addr) (c : Nat) (bs : List Int) (b : Option Addr) (n d : Nat) (ms : List Int) (w : World) (hx : Bs w a 32 c bs) (hy : Bs w b n d ms) (hn : n ≤ 2000) :
  Calls Tryz.prog 49 #[.slice a 32 c, .slice b n d] w fun e w' => ∃ v, e = .returned v ∧ w'.ownsRow w.heap.size 5 1 v 64 (U8 (sgB bs ms)) ∧ Below w.heap.size w w' := by
 obtain ⟨S, eS⟩ : ∃ x, x = sumOfW bs := ⟨_, rfl⟩
 obtain ⟨A, eA⟩ : ∃ x, x = sA bs := ⟨_, rfl⟩
 obtain ⟨r, er⟩ : ∃ x, x = sgR bs ms := ⟨_, rfl⟩
 obtain ⟨F, eF⟩ : ∃ x, x = sgF bs ms := ⟨_, rfl⟩
 obtain ⟨Q, eQ⟩ : ∃ x, x = baseB (val A).toNat := ⟨_, rfl⟩
 obtain ⟨k, ek⟩ : ∃ x, x = sgK bs ms := ⟨_, rfl⟩
 obtain ⟨am, eam⟩ : ∃ x, x = redO (val A) := ⟨_, rfl⟩
 obtain ⟨pd, epd⟩ : ∃ x, x = redO (val k * val am) := ⟨_, rfl⟩
 obtain ⟨s, es⟩ : ∃ x, x = sgS bs ms := ⟨_, rfl⟩
 have hn1 : bs.length = 32 := hx.2.1
 have lA : A.length = 16 := by rw [eA]; exact sA_len _
 have mA : Lm A := by rw [eA]; exact sA_lm _
 have or : scOk r = true := by rw [er, sgR]; exact mS_ok _
 have ok : scOk k = true := by rw [ek, sgK]; exact mS_ok _
 have oam : scOk am = true := by rw [eam]; exact redO_ok _
 have opd : scOk pd = true := by rw [epd]; exact redO_ok _
 have os : scOk s = true := by rw [es, sgS]; exact redO_ok _
 obtain ⟨lr, mr, vr⟩ := (scOk_iff r).1 or
 obtain ⟨lk, mk, vk⟩ := (scOk_iff k).1 ok
 obtain ⟨lam, mam, vam⟩ := (scOk_iff am).1 oam
 obtain ⟨lpd, mpd, vpd⟩ := (scOk_iff pd).1 opd
 obtain ⟨ls, mms, vs⟩ := (scOk_iff s).1 os
 have HS : Hid (∀ Z, Below w.heap.size w Z → Calls Tryz.prog 73 #[.slice a 32 c] Z fun e w' => ∃ a' c', e = .returned (.slice a' 64 c') ∧ Bs w' a' 64 c' S ∧ Below Z.heap.size Z w') := by unfold Hid; intro Z hZ; rw [eS]; exact specHash a 32 c bs Z (hx.below hZ) (by omega)
 have HC : Hid (∀ a c Z, Bs Z a 32 c (S.take 32) → Calls Tryz.prog 90 #[.slice a 32 c] Z fun e w' => e = .returned (.agg (I64 A).toArray) ∧ Below Z.heap.size Z w') := by unfold Hid; intro a c Z h; rw [eA, sA, ← eS]; exact specClamp16 a c _ Z h
 have HB : Hid (∀ Z, Calls Tryz.prog 77 #[] Z fun e w' => e = .returned (.agg (I64 base6.cells).toArray) ∧ Below Z.heap.size Z w') := by unfold Hid; intro Z; exact spec6base Z
 obtain ⟨MA, hMA⟩ : ∃ M, M = mul6 base6 (val A).toNat := ⟨_, rfl⟩
 have HMA : Hid (∀ Z, Calls Tryz.prog 76 #[.agg (I64 base6.cells).toArray, .agg (I64 A).toArray] Z fun e w' => e = .returned (.agg (I64 MA.cells).toArray) ∧ Below Z.heap.size Z w') := by unfold Hid; intro Z; rw [hMA]; exact spec6mul base6 A Z base6_ok lA mA
 have HYA : Hid (∀ Z, Calls Tryz.prog 54 #[.agg (I64 MA.cells).toArray] Z fun e w' => ∃ a' c', e = .returned (.slice a' 32 c') ∧ w'.ownsRow Z.heap.size 5 1 (.slice a' 32 c') 32 (U8 Q) ∧ Below Z.heap.size Z w') := by
  unfold Hid; intro Z; rw [hMA, show Q = baseB (val A).toNat by exact eQ]
  refine (specBase A Z lA mA).mono ?_; rintro e w' ⟨v, rfl, ho, hb⟩; obtain ⟨a', c', rfl, _, _⟩ := Bs.own ho (baseB_byte _); exact ⟨a', c', rfl, ho, hb⟩
 clear hMA
 obtain ⟨Mr, hMr⟩ : ∃ M, M = mul6 base6 (val r).toNat := ⟨_, rfl⟩
 have HMr : Hid (∀ Z, Calls Tryz.prog 76 #[.agg (I64 base6.cells).toArray, .agg (I64 r).toArray] Z fun e w' => e = .returned (.agg (I64 Mr.cells).toArray) ∧ Below Z.heap.size Z w') := by unfold Hid; intro Z; rw [hMr]; exact spec6mul base6 r Z base6_ok lr mr
 have HYr : Hid (∀ Z, Calls Tryz.prog 54 #[.agg (I64 Mr.cells).toArray] Z fun e w' => ∃ a' c', e = .returned (.slice a' 32 c') ∧ w'.ownsRow Z.heap.size 5 1 (.slice a' 32 c') 32 (U8 F) ∧ Below Z.heap.size Z w') := by
  unfold Hid; intro Z; rw [hMr, show F = baseB (val r).toNat by rw [eF, sgF, er]]
  refine (specBase r Z lr mr).mono ?_; rintro e w' ⟨v, rfl, ho, hb⟩; obtain ⟨a', c', rfl, _, _⟩ := Bs.own ho (baseB_byte _); exact ⟨a', c', rfl, ho, hb⟩
 clear hMr
 have HJ1 : Hid (∀ a1 c1 Z, Bs Z a1 32 c1 (S.drop 32) → Below w.heap.size w Z → Calls Tryz.prog 74 #[.slice a1 32 c1, .slice b n d, .slice none 0 0] Z fun e w' => ∃ a' c', e = .returned (.slice a' (32 + n + 0) c') ∧ Bs w' a' (32 + n + 0) c' (S.drop 32 ++ ms) ∧ Below Z.heap.size Z w') := by
  unfold Hid; intro a1 c1 Z h hZ; refine (specJoin a1 b none 32 c1 n d 0 0 _ ms [] Z h (hy.below hZ) ⟨fun _ => rfl, rfl, Nat.le_refl _, by simp, .inl rfl⟩ (by omega)).mono ?_
  rintro e w' ⟨v, rfl, ho, hb⟩; rw [List.append_nil] at ho; obtain ⟨a', c', rfl, _, hB⟩ := Bs.own ho (app_byte (by rw [eS]; exact drop_byte (sumOfW_byte _) 32) hy.2.2.2.1); exact ⟨a', c', rfl, hB, hb⟩
 have HJ2 : Hid (∀ a1 c1 a2 c2 Z, Bs Z a1 32 c1 F → Bs Z a2 32 c2 Q → Below w.heap.size w Z → Calls Tryz.prog 74 #[.slice a1 32 c1, .slice a2 32 c2, .slice b n d] Z fun e w' => ∃ a' c', e = .returned (.slice a' (32 + 32 + n) c') ∧ Bs w' a' (32 + 32 + n) c' (F ++ Q ++ ms) ∧ Below Z.heap.size Z w') := by
  unfold Hid; intro a1 c1 a2 c2 Z h h' hZ; refine (specJoin a1 a2 b 32 c1 32 c2 n d _ _ ms Z h h' (hy.below hZ) (by omega)).mono ?_
  rintro e w' ⟨v, rfl, ho, hb⟩; obtain ⟨a', c', rfl, _, hB⟩ := Bs.own ho (app_byte (app_byte (by rw [eF]; exact baseB_byte _) (by rw [eQ]; exact baseB_byte _)) hy.2.2.2.1); exact ⟨a', c', rfl, hB, hb⟩
 have HH : Hid (∀ a m c xs Z, Bs Z a m c xs → m ≤ 20000 → Calls Tryz.prog 73 #[.slice a m c] Z fun e w' => ∃ a' c', e = .returned (.slice a' 64 c') ∧ Bs w' a' 64 c' (sumOfW xs) ∧ Below Z.heap.size Z w') := by unfold Hid; intro a m c xs Z h hm; exact specHash a m c xs Z h hm
 have HWr : Hid (∀ a c Z, Bs Z a 64 c (sumOfW (S.drop 32 ++ ms)) → Calls Tryz.prog 72 #[.slice a 64 c] Z fun e w' => e = .returned (.agg (I64 r).toArray) ∧ Below Z.heap.size Z w') := by unfold Hid; intro a c Z h; rw [er, sgR, mS, ← eS]; exact specWide16 a c _ Z h
 have HWk : Hid (∀ a c Z, Bs Z a 64 c (sumOfW (F ++ Q ++ ms)) → Calls Tryz.prog 72 #[.slice a 64 c] Z fun e w' => e = .returned (.agg (I64 k).toArray) ∧ Below Z.heap.size Z w') := by unfold Hid; intro a c Z h; rw [ek, sgK, mS, ← eF, ← eA, ← eQ]; exact specWide16 a c _ Z h
 have HA : Hid (∀ Z, Calls Tryz.prog 93 #[.agg (I64 A).toArray] Z fun e w' => e = .returned (.agg (I64 am).toArray) ∧ Below Z.heap.size Z w') := by unfold Hid; intro Z; rw [eam]; exact specL7mod A Z lA mA
 have HP : Hid (∀ Z, Calls Tryz.prog 92 #[.agg (I64 k).toArray, .agg (I64 am).toArray] Z fun e w' => e = .returned (.agg (I64 pd).toArray) ∧ Below Z.heap.size Z w') := by unfold Hid; intro Z; rw [epd]; exact specScMul16 k am Z lk lam mk mam
 have HD : Hid (∀ Z, Calls Tryz.prog 91 #[.agg (I64 r).toArray, .agg (I64 pd).toArray] Z fun e w' => e = .returned (.agg (I64 s).toArray) ∧ Below Z.heap.size Z w') := by unfold Hid; intro Z; rw [es, sgS, ← er, ← ek, ← eA, ← eam, ← epd]; exact specScAdd16 r pd Z lr lpd mr mpd vr vpd
 have HZ : Hid (∀ Z, Calls Tryz.prog 53 #[.agg (I64 s).toArray] Z fun e w' => ∃ a' c', e = .returned (.slice a' 32 c') ∧ Bs w' a' 32 c' (btL s) ∧ Below Z.heap.size Z w') := by
  unfold Hid; intro Z; refine (specBytes16 s Z ls mms).mono ?_; rintro e w' ⟨v, rfl, ho, hb⟩; obtain ⟨a', c', rfl, _, hB⟩ := Bs.own ho (btL_byte mms); exact ⟨a', c', rfl, hB, hb⟩
 have hE : sgB bs ms = F ++ btL s := by rw [eF, es]; rfl
 rw [hE]
 have jA := infoV' lA
 have iiA : (Tryz.prog.info? 80).map (·.size) = some (I64 A).length := by simpa [lA] using infoV
 have uA := one_lm A
 have jr := infoV' lr
 have iir : (Tryz.prog.info? 80).map (·.size) = some (I64 r).length := by simpa [lr] using infoV
 have ur := one_lm r
 have jk := infoV' lk
 have iik : (Tryz.prog.info? 80).map (·.size) = some (I64 k).length := by simpa [lk] using infoV
 have uk := one_lm k
 have js := infoV' ls
 have iis : (Tryz.prog.info? 80).map (·.size) = some (I64 s).length := by simpa [ls] using infoV
 have us := one_lm s
 have hu : Tryz.prog.underlying 80 = some (.array 16 3) := Tryz.underlying80
 have sl : S.length = 64 := by rw [eS]; exact sumOfW_len _
 have HFB : Hid (∀ x ∈ F, 0 ≤ x ∧ x < 256) := by unfold Hid; rw [eF]; exact baseB_byte _
 have HQB : Hid (∀ x ∈ Q, 0 ≤ x ∧ x < 256) := by unfold Hid; rw [eQ]; exact baseB_byte _
 clear hE eS eA er eF eQ ek eam epd es or ok oam opd os mA mr mk mam mpd mms vr vk vam vpd vs hx
 obtain ⟨W, hW⟩ : ∃ W, W = w := ⟨_, rfl⟩
 have fr : Below w.heap.size w W := by rw [hW]; exact (Below.refl _ _)
 go_enter Tryz.func49, Tryz.ntmps49
 go_upto_region 1 with fail
 rw [← hW]
 clear hW
 go_wp2_with fail
 refine (HS.out _ fr).mono ?_
 rintro e y1 ⟨a1, c1, rfl, hS, hb⟩
 replace fr := fr.trans (hb.mono fr.size)
 clear hb
 obtain ⟨g, o1, rfl⟩ : ∃ g o, a1 = some ⟨g, o, none⟩ := by
  rcases hS.2.2.2.2 with h | ⟨b, o, h, _⟩
  ·omega
  ·exact ⟨b, o, h⟩
 have hcc : (32 : Int) ≤ (c1 : Int) := by have := hS.2.2.1; omega
 have hcne : ¬ c1 = 32 := by have := hS.2.2.1; omega
 go_wp2_with fail
 refine (HC.out _ _ _ (hS.takeW (m := 32) (by omega))).mono ?_
 rintro e y1 ⟨rfl, hb1⟩
 replace fr := fr.trans (hb1.mono fr.size)
 replace hS := hS.below hb1
 clear hb1
 have hXA : w.heap.size ≤ y1.heap.size := fr.size
 obtain ⟨bV, AA, q1⟩ := laid_v y1 A
 replace fr := fr.trans (bV.mono fr.size)
 replace hS := hS.below bV
 go_upto_region 3 with (refine wpList_store_row rfl 80 _ _ rfl y1.heap.size (I64 A).toArray rfl rfl 80 _ q1 jA (by simp [lA]) (by simp [Value.oneCell']) ?_)
 obtain ⟨V2, hVV⟩ : ∃ V, V = (y1.alloc (.cells #[.int .i64 0, .int .i64 0, .int .i64 0, .int .i64 0, .int .i64 0, .int .i64 0, .int .i64 0, .int .i64 0, .int .i64 0, .int .i64 0, .int .i64 0, .int .i64 0, .int .i64 0, .int .i64 0, .int .i64 0, .int .i64 0] 80)).setRow y1.heap.size (I64 A).toArray := ⟨_, rfl⟩
 obtain ⟨XA, hE⟩ : ∃ E, E = y1.heap.size := ⟨_, rfl⟩
 rw [← hVV] at fr hS AA ⊢
 rw [← hE] at AA hXA ⊢
 clear hVV hE q1 bV
 try simp only [Act.put]
 have bD : Below V2.heap.size V2 V2.drew := (Below.refl _ _).drew
 replace fr := fr.trans (bD.mono fr.size)
 replace hS := hS.below bD
 replace AA := AA.kept bD
 clear bD
 refine wp_region_held_drew (S := fun W => W.rangeAt XA 0 (I64 A)) (by kernel_rfl) (arr_range AA) (fun hHeld => ?_)
 obtain ⟨D3, hD⟩ : ∃ V, V = V2.drew := ⟨_, rfl⟩
 rw [← hD] at hHeld fr hS AA ⊢
 clear hD
 refine wpAnyH_take (i := 1) (oi := { dst := some 18, op := Op.load 80 (Operand.tmp 6), type := 80, pos := "l07_sign.go:43", after := #[], guard := none }) (v := _) rfl (by kernel_rfl) (by kernel_rfl) (by kernel_rfl) (fun _ _ _ h => h) (yieldsIf_load_mid (by rfl) _ _ rfl _ _ rfl (I64 A) _ (fun _ h => h) hu rfl iiA) (by assumption) ?_
 simp only [Act.put, List.setIfInBounds_toArray, List.set_cons_zero, List.set_cons_succ]
 refine wpAnyH_ready (rs := [0]) (by kernel_rfl) (by simp) (AllReadyH.cons (o := { dst := some 17, op := Op.call { callee := Callee.value (Operand.func 77), args := #[], argTypes := #[] }, type := 86, pos := "l07_sign.go:43", after := #[], guard := none }) rfl (fun K hK => ?_) AllReadyH.nil)
 go_simp
 refine (HB.out _).mono ?_
 rintro e y4 ⟨rfl, hb4⟩
 replace fr := fr.trans (hb4.mono fr.size)
 replace hS := hS.below hb4
 replace AA := AA.kept hb4
 clear hb4
 go_wp2_with fail
 refine hK.out _ _ (arr_range AA) (fun hHeld => ?_)
 clear hK K
 refine wpAnyH_ready (rs := [2]) (by kernel_rfl) (by simp) (AllReadyH.cons (o := { dst := some 19, op := Op.call { callee := Callee.value (Operand.func 76), args := #[Operand.tmp 17, Operand.tmp 18], argTypes := #[86, 80] }, type := 86, pos := "l07_sign.go:43", after := #[{ on := 0, ground := Ground.data }, { on := 1, ground := Ground.data }, { on := 0, ground := Ground.chain }], guard := none }) rfl (fun K hK => ?_) AllReadyH.nil)
 go_simp
 refine (HMA.out _).mono ?_
 rintro e y5 ⟨rfl, hb5⟩
 replace fr := fr.trans (hb5.mono fr.size)
 replace hS := hS.below hb5
 replace AA := AA.kept hb5
 clear hb5
 go_wp2_with fail
 refine hK.out _ _ (arr_range AA) (fun hHeld => ?_)
 clear hK K
 refine wpAnyH_ready (rs := [3]) (by kernel_rfl) (by simp) (AllReadyH.cons (o := { dst := some 20, op := Op.call { callee := Callee.value (Operand.func 54), args := #[Operand.tmp 19], argTypes := #[86] }, type := 22, pos := "l07_sign.go:43", after := #[{ on := 2, ground := Ground.data }, { on := 2, ground := Ground.chain }], guard := none }) rfl (fun K hK => ?_) AllReadyH.nil)
 go_simp
 have zoQ := fr.size
 refine (HYA.out _).mono ?_
 rintro e y6 ⟨aA, cA, rfl, oQ, hb6⟩
 replace fr := fr.trans (hb6.mono fr.size)
 replace hS := hS.below hb6
 replace AA := AA.kept hb6
 clear hb6
 have ioQ := In.of oQ
 have boQ : Below y6.heap.size y6 y6 := Below.refl _ _
 go_wp2_with fail
 refine hK.out _ _ (arr_range AA) (fun hHeld => ?_)
 clear hK K
 refine wpAnyH_ready (rs := [4]) (by kernel_rfl) (by simp) (AllReadyH.cons (o := { dst := some 7, op := Op.assign (Operand.tmp 20), type := 22, pos := "l07_sign.go:43", after := #[{ on := 3, ground := Ground.data }, { on := 3, ground := Ground.chain }, { on := 0, ground := Ground.phase }, { on := 1, ground := Ground.phase }, { on := 2, ground := Ground.phase }, { on := 3, ground := Ground.phase }], guard := none }) rfl (fun K hK => ?_) AllReadyH.nil)
 go_simp
 refine hK.out _ _ (arr_range AA) (fun hHeld => ?_)
 clear hK K
 refine wpAnyH_done (by kernel_rfl) ?_ _
 go_upto_region 4 with fail
 have hSd := hS.dropW (m := 32) (by omega)
 go_wp2_with fail
 refine (HJ1.out _ _ _ hSd fr).mono ?_
 rintro e y7 ⟨a3, c3, rfl, hJ, hb7⟩
 replace fr := fr.trans (hb7.mono fr.size)
 replace hS := hS.below hb7
 replace AA := AA.kept hb7
 replace oQ := own_below oQ hb7
 replace boQ := boQ.trans (hb7.mono boQ.size)
 clear hb7 hSd
 clear hS
 go_wp2_with fail
 refine (HH.out _ _ _ _ _ hJ (by omega)).mono ?_
 rintro e y8 ⟨a4, c4, rfl, hJ2, hb8⟩
 replace fr := fr.trans (hb8.mono fr.size)
 replace AA := AA.kept hb8
 replace oQ := own_below oQ hb8
 replace boQ := boQ.trans (hb8.mono boQ.size)
 clear hb8 hJ
 go_wp2_with fail
 refine (HWr.out _ _ _ hJ2).mono ?_
 rintro e y9 ⟨rfl, hb9⟩
 replace fr := fr.trans (hb9.mono fr.size)
 replace AA := AA.kept hb9
 replace oQ := own_below oQ hb9
 replace boQ := boQ.trans (hb9.mono boQ.size)
 clear hb9 hJ2
 have hXr : XA < y9.heap.size ∧ w.heap.size ≤ y9.heap.size := ⟨AA.lt, fr.size⟩
 obtain ⟨bV, Ar, q1⟩ := laid_v y9 r
 replace fr := fr.trans (bV.mono fr.size)
 replace AA := AA.kept bV
 replace oQ := own_below oQ bV
 replace boQ := boQ.trans (bV.mono boQ.size)
 go_upto_region 5 with (refine wpList_store_row rfl 80 _ _ rfl y9.heap.size (I64 r).toArray rfl rfl 80 _ q1 jr (by simp [lr]) (by simp [Value.oneCell']) ?_)
 obtain ⟨V10, hVV⟩ : ∃ V, V = (y9.alloc (.cells #[.int .i64 0, .int .i64 0, .int .i64 0, .int .i64 0, .int .i64 0, .int .i64 0, .int .i64 0, .int .i64 0, .int .i64 0, .int .i64 0, .int .i64 0, .int .i64 0, .int .i64 0, .int .i64 0, .int .i64 0, .int .i64 0] 80)).setRow y9.heap.size (I64 r).toArray := ⟨_, rfl⟩
 obtain ⟨Xr, hE⟩ : ∃ E, E = y9.heap.size := ⟨_, rfl⟩
 rw [← hVV] at fr AA oQ boQ Ar ⊢
 rw [← hE] at Ar hXr ⊢
 clear hVV hE q1 bV
 try simp only [Act.put]
 have bD : Below V10.heap.size V10 V10.drew := (Below.refl _ _).drew
 replace fr := fr.trans (bD.mono fr.size)
 replace AA := AA.kept bD
 replace oQ := own_below oQ bD
 replace boQ := boQ.trans (bD.mono boQ.size)
 replace Ar := Ar.kept bD
 clear bD
 refine wp_region_held_drew (S := fun W => W.rangeAt Xr 0 (I64 r)) (by kernel_rfl) (arr_range Ar) (fun hHeld => ?_)
 obtain ⟨D11, hD⟩ : ∃ V, V = V10.drew := ⟨_, rfl⟩
 rw [← hD] at hHeld fr AA oQ boQ Ar ⊢
 clear hD
 refine wpAnyH_take (i := 1) (oi := { dst := some 28, op := Op.load 80 (Operand.tmp 8), type := 80, pos := "l07_sign.go:45", after := #[], guard := none }) (v := _) rfl (by kernel_rfl) (by kernel_rfl) (by kernel_rfl) (fun _ _ _ h => h) (yieldsIf_load_mid (by rfl) _ _ rfl _ _ rfl (I64 r) _ (fun _ h => h) hu rfl iir) (by assumption) ?_
 simp only [Act.put, List.setIfInBounds_toArray, List.set_cons_zero, List.set_cons_succ]
 refine wpAnyH_ready (rs := [0]) (by kernel_rfl) (by simp) (AllReadyH.cons (o := { dst := some 27, op := Op.call { callee := Callee.value (Operand.func 77), args := #[], argTypes := #[] }, type := 86, pos := "l07_sign.go:45", after := #[], guard := none }) rfl (fun K hK => ?_) AllReadyH.nil)
 go_simp
 refine (HB.out _).mono ?_
 rintro e y12 ⟨rfl, hb12⟩
 replace fr := fr.trans (hb12.mono fr.size)
 replace AA := AA.kept hb12
 replace oQ := own_below oQ hb12
 replace boQ := boQ.trans (hb12.mono boQ.size)
 replace Ar := Ar.kept hb12
 clear hb12
 go_wp2_with fail
 refine hK.out _ _ (arr_range Ar) (fun hHeld => ?_)
 clear hK K
 refine wpAnyH_ready (rs := [2]) (by kernel_rfl) (by simp) (AllReadyH.cons (o := { dst := some 29, op := Op.call { callee := Callee.value (Operand.func 76), args := #[Operand.tmp 27, Operand.tmp 28], argTypes := #[86, 80] }, type := 86, pos := "l07_sign.go:45", after := #[{ on := 0, ground := Ground.data }, { on := 1, ground := Ground.data }, { on := 0, ground := Ground.chain }], guard := none }) rfl (fun K hK => ?_) AllReadyH.nil)
 go_simp
 refine (HMr.out _).mono ?_
 rintro e y13 ⟨rfl, hb13⟩
 replace fr := fr.trans (hb13.mono fr.size)
 replace AA := AA.kept hb13
 replace oQ := own_below oQ hb13
 replace boQ := boQ.trans (hb13.mono boQ.size)
 replace Ar := Ar.kept hb13
 clear hb13
 go_wp2_with fail
 refine hK.out _ _ (arr_range Ar) (fun hHeld => ?_)
 clear hK K
 refine wpAnyH_ready (rs := [3]) (by kernel_rfl) (by simp) (AllReadyH.cons (o := { dst := some 30, op := Op.call { callee := Callee.value (Operand.func 54), args := #[Operand.tmp 29], argTypes := #[86] }, type := 22, pos := "l07_sign.go:45", after := #[{ on := 2, ground := Ground.data }, { on := 2, ground := Ground.chain }], guard := none }) rfl (fun K hK => ?_) AllReadyH.nil)
 go_simp
 have zoF := fr.size
 refine (HYr.out _).mono ?_
 rintro e y14 ⟨ar, cr, rfl, oF, hb14⟩
 replace fr := fr.trans (hb14.mono fr.size)
 replace AA := AA.kept hb14
 replace oQ := own_below oQ hb14
 replace boQ := boQ.trans (hb14.mono boQ.size)
 replace Ar := Ar.kept hb14
 clear hb14
 have ioF := In.of oF
 have boF : Below y14.heap.size y14 y14 := Below.refl _ _
 go_wp2_with fail
 refine hK.out _ _ (arr_range Ar) (fun hHeld => ?_)
 clear hK K
 refine wpAnyH_ready (rs := [4]) (by kernel_rfl) (by simp) (AllReadyH.cons (o := { dst := some 9, op := Op.assign (Operand.tmp 30), type := 22, pos := "l07_sign.go:45", after := #[{ on := 3, ground := Ground.data }, { on := 3, ground := Ground.chain }, { on := 0, ground := Ground.phase }, { on := 1, ground := Ground.phase }, { on := 2, ground := Ground.phase }, { on := 3, ground := Ground.phase }], guard := none }) rfl (fun K hK => ?_) AllReadyH.nil)
 go_simp
 refine hK.out _ _ (arr_range Ar) (fun hHeld => ?_)
 clear hK K
 refine wpAnyH_done (by kernel_rfl) ?_ _
 go_upto_region 6 with fail
 go_wp2_with fail
 refine (HJ2.out _ _ _ _ _ (bs_of_own oF HFB.out) (bs_of_own oQ HQB.out) fr).mono ?_
 rintro e y15 ⟨a5, c5, rfl, hJ, hb15⟩
 replace fr := fr.trans (hb15.mono fr.size)
 replace AA := AA.kept hb15
 replace oQ := own_below oQ hb15
 replace boQ := boQ.trans (hb15.mono boQ.size)
 replace Ar := Ar.kept hb15
 replace oF := own_below oF hb15
 replace boF := boF.trans (hb15.mono boF.size)
 clear hb15
 clear oQ
 clear boQ
 go_wp2_with fail
 refine (HH.out _ _ _ _ _ hJ (by omega)).mono ?_
 rintro e y16 ⟨a6, c6, rfl, hJ2, hb16⟩
 replace fr := fr.trans (hb16.mono fr.size)
 replace AA := AA.kept hb16
 replace Ar := Ar.kept hb16
 replace oF := own_below oF hb16
 replace boF := boF.trans (hb16.mono boF.size)
 clear hb16 hJ
 go_wp2_with fail
 refine (HWk.out _ _ _ hJ2).mono ?_
 rintro e y17 ⟨rfl, hb17⟩
 replace fr := fr.trans (hb17.mono fr.size)
 replace AA := AA.kept hb17
 replace Ar := Ar.kept hb17
 replace oF := own_below oF hb17
 replace boF := boF.trans (hb17.mono boF.size)
 clear hb17 hJ2
 have hXk : XA < y17.heap.size ∧ Xr < y17.heap.size ∧ w.heap.size ≤ y17.heap.size := ⟨AA.lt, Ar.lt, fr.size⟩
 obtain ⟨bV, Ak, q1⟩ := laid_v y17 k
 replace fr := fr.trans (bV.mono fr.size)
 replace AA := AA.kept bV
 replace Ar := Ar.kept bV
 replace oF := own_below oF bV
 replace boF := boF.trans (bV.mono boF.size)
 go_upto_region 7 with (refine wpList_store_row rfl 80 _ _ rfl y17.heap.size (I64 k).toArray rfl rfl 80 _ q1 jk (by simp [lk]) (by simp [Value.oneCell']) ?_)
 obtain ⟨V18, hVV⟩ : ∃ V, V = (y17.alloc (.cells #[.int .i64 0, .int .i64 0, .int .i64 0, .int .i64 0, .int .i64 0, .int .i64 0, .int .i64 0, .int .i64 0, .int .i64 0, .int .i64 0, .int .i64 0, .int .i64 0, .int .i64 0, .int .i64 0, .int .i64 0, .int .i64 0] 80)).setRow y17.heap.size (I64 k).toArray := ⟨_, rfl⟩
 obtain ⟨Xk, hE⟩ : ∃ E, E = y17.heap.size := ⟨_, rfl⟩
 rw [← hVV] at fr AA Ar oF boF Ak ⊢
 rw [← hE] at Ak hXk ⊢
 clear hVV hE q1 bV
 have zF := boF.size
 try simp only [Act.put]
 refine tame [kc 37 (.agg (I64 r).toArray), kc 38 (.agg (I64 k).toArray), kc 39 (.agg (I64 A).toArray), kc 40 (.agg (I64 am).toArray), kc 41 (.agg (I64 pd).toArray), kc 42 (.agg (I64 s).toArray), ka 11 80 (I64 Z16)] 7 (by kernel_rfl) (by kernel_rfl) (by kernel_rfl) (by repeat' first | exact trivial | apply kc_keeps | apply ka_keeps | constructor) 1 (by kernel_rfl) (fun vv1 ll1 hh1 yW b => ?_) (fun vv1 ll1 hh1 yW b F ivh aph => ?_)
 ·skip
  replace fr := fr.trans (b.mono fr.size)
  replace AA := AA.kept b
  replace Ar := Ar.kept b
  replace oF := own_below oF b
  replace boF := boF.trans (b.mono boF.size)
  replace Ak := Ak.kept b
  exact ⟨tl (arr_range Ar) iir hu (by kernel_rfl),
   tl (arr_range Ak) iik hu (by kernel_rfl),
   tl (arr_range AA) iiA hu (by kernel_rfl),
   tc (HA.out _) (by kernel_rfl),
   tc (HP.out _) (by kernel_rfl),
   tc (HD.out _) (by kernel_rfl),
   ta (by kernel_rfl), trivial⟩
 obtain ⟨y19, hy⟩ : ∃ z, z = yW := ⟨_, rfl⟩
 rw [← hy] at b F ivh ⊢
 clear hy
 have oq : XA < V18.heap.size ∧ Xr < V18.heap.size ∧ Xk < V18.heap.size ∧ w.heap.size ≤ V18.heap.size := ⟨AA.lt, Ar.lt, Ak.lt, fr.size⟩
 replace fr := fr.trans (b.mono fr.size)
 replace AA := AA.kept b
 replace Ar := Ar.kept b
 replace oF := own_below oF b
 replace boF := boF.trans (b.mono boF.size)
 replace Ak := Ak.kept b
 obtain ⟨-, -, -, -, -, -, ⟨As, gXs⟩, -⟩ := F
 have iXs := ivh 6 (by decide)
 replace As : Arr y19 (ll1 6) 80 (I64 Z16) := As
 replace gXs : ll1 6 < hh1 6 := gXs
 have lXs := As.lt
 refine st_row (i := 7) (cells := I64 s) (by kernel_rfl) rfl rfl rfl rfl As (by kernel_rfl) (by kernel_rfl) (by simp [ls]) js us ?_
 replace fr := bel_sc fr (ll1 6) (I64 s) (by omega)
 replace AA := AA.sc (ll1 6) (I64 s) (by omega)
 replace Ar := Ar.sc (ll1 6) (I64 s) (by omega)
 replace oF : (y19.setCells (ll1 6) 0 (I64 s)).ownsRow y13.heap.size 5 1 (.slice ar 32 cr) 32 (U8 F) := own_setCells oF ioF (by omega) _
 replace boF := bel_sc boF (ll1 6) (I64 s) (by omega)
 replace Ak := Ak.sc (ll1 6) (I64 s) (by omega)
 replace As := As.sc0 (I64 s) (by simp [ls])
 obtain ⟨V20, hVe⟩ : ∃ V, V = y19.setCells (ll1 6) 0 (I64 s) := ⟨_, rfl⟩
 rw [← hVe] at fr AA Ar oF boF Ak As ⊢
 clear hVe
 refine wpAny_done (by kernel_rfl) ?_ _
 simp only [fillK, putT, List.setIfInBounds_toArray, List.set_cons_zero, List.set_cons_succ]
 have qXs : XA < ll1 6 ∧ Xr < ll1 6 ∧ Xk < ll1 6 ∧ w.heap.size ≤ ll1 6 := by omega
 clear iXs gXs lXs
 generalize ll1 6 = Xs at *
 clear ivh aph b oq
 clear Ar
 clear Ak
 clear AA
 go_wp2_with (refine wpList_load_row rfl 80 _ rfl Xs rfl 80 (I64 s).toArray (0, 0) _ As Tryz.underlying80 rfl js ?_)
 refine (HZ.out _).mono ?_
 rintro e y21 ⟨a7, c7, rfl, hZ, hb21⟩
 replace fr := fr.trans (hb21.mono fr.size)
 replace oF := own_below oF hb21
 replace boF := boF.trans (hb21.mono boF.size)
 replace As := As.kept hb21
 clear hb21
 have oF2 := own_base oF zoF
 go_wp2_with (at_builtin; refine wpl_append_bs rfl _ _ rfl w.heap.size _ 32 F rfl a7 32 c7 (btL s) rfl oF2 hZ (by omega) fr.size ?_)
 intro v8 w8 ow8 gr8 _
 have b8 : Below w.heap.size w w8 := fr.grown gr8 fr.size (fun k hk => by have := (ioF k hk).1; omega)
 go_wp2
 go_ret
 exact ⟨v8, rfl, by simpa [U8] using ow8, b8⟩

end Go.Proofs.YtihoaakbkffejaaGreatDoor

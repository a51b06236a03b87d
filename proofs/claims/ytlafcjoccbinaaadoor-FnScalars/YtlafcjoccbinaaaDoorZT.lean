/-
  What is proved here: the contract of the specification's l5mul: the product of two multipliers; contracts of the specification's ScAdd and ScMul.
-/
import Derived.Test.YtlafcjoccbinaaaDoorZS
import Derived.Laws.MakeOwn
import Derived.Test.YtlafcjoccbinaaaDoorZA
namespace Go.Proofs.YtlafcjoccbinaaaDoor
open Go.RowKit
set_option maxRecDepth 100000

theorem mul_p {x y : Int} (hx0 : 0 ≤ x) (hx1 : x < 65536) (hy0 : 0 ≤ y) (hy1 : y < 65536) : 0 ≤ x * y ∧ x * y ≤ 4294836225 := by
  refine ⟨Int.mul_nonneg hx0 hy0, ?_⟩
  have h1 : x * y ≤ 65535 * y := Int.mul_le_mul_of_nonneg_right (by omega) hy0
  omega
/-- The table of a product in 33 parts: its worth, and how great its parts may be. -/
structure Tr (a b t : List Int) (i k : Nat) : Prop where
  len : t.length = 33
  vl : val t = prodAt a b i k
  le : ∀ x ∈ t, 0 ≤ x ∧ x ≤ (16 * (i : Int) + (k : Int)) * 4294836225
theorem Tr.get {a b t : List Int} {i k : Nat} (h : Tr a b t i k) (j : Nat) : 0 ≤ t.getD j 0 ∧ t.getD j 0 ≤ (16 * (i : Int) + (k : Int)) * 4294836225 := by
  by_cases hj : j < t.length
  · have : t.getD j 0 ∈ t := by rw [List.getD_eq_getElem?_getD, List.getElem?_eq_getElem hj]; exact List.getElem_mem _
    exact h.le _ this
  · rw [List.getD_eq_getElem?_getD, List.getElem?_eq_none (by omega)]; simp; omega
theorem Tr.step {a b t : List Int} {i k : Nat} (h : Tr a b t i k) (hi : i < 16) (hk : k < b.length) (hk16 : k < 16) {p : Int} (hp : p = a.getD i 0 * b.getD k 0) (hp0 : 0 ≤ p) (hp1 : p ≤ 4294836225) : Tr a b (t.set (i + k) (t.getD (i + k) 0 + p)) i (k + 1) := by
  have hl := h.len
  have hg := h.get (i + k)
  refine ⟨by simp [hl], ?_, ?_⟩
  · rw [val_set t (i + k) (by omega), h.vl, prodAt_step a b i k hk, hp]
    congr 2
    omega
  · intro x hx
    rcases List.mem_or_eq_of_mem_set hx with h1 | h1
    · have := h.le x h1
      simp only [Int.natCast_add, Int.natCast_one]
      omega
    · subst h1
      simp only [Int.natCast_add, Int.natCast_one]
      omega
theorem Tr.row {a b t : List Int} {i : Nat} (h : Tr a b t i 16) (hb : b.length = 16) (hi : i < a.length) : Tr a b t (i + 1) 0 := by
  refine ⟨h.len, ?_, fun x hx => ?_⟩
  · rw [h.vl, ← prodAt_row a b i hi, hb]
  · have := h.le x hx
    simp only [Int.natCast_add, Int.natCast_one] at this ⊢
    omega
abbrev Z33 : List Int := List.replicate 33 0
theorem Tr.zero (a b : List Int) : Tr a b Z33 0 0 := by
  refine ⟨rfl, ?_, ?_⟩
  · have : val Z33 = 0 := by decide
    rw [this]; simp [prodAt, val]
  · intro x hx
    have : x = 0 := by simpa using List.eq_of_mem_replicate hx
    omega
theorem cpc_gr {l : List Int} (h : ∀ x ∈ l, 0 ≤ x ∧ x < 70368744177664) : ∀ {c : Int}, 0 ≤ c → c ≤ 2147483648 → 0 ≤ cpc l c ∧ cpc l c ≤ 2147483648 := by
  induction l with
  | nil => intro c h0 h1; exact ⟨h0, h1⟩
  | cons x l ih =>
    intro c h0 h1
    have hx := h x (by simp)
    exact ih (fun y hy => h y (by simp [hy])) (by omega) (by omega)
theorem prod_lt {x y : Int} (hx0 : 0 ≤ x) (hx1 : x < 115792089237316195423570985008687907853269984665640564039457584007913129639936) (hy0 : 0 ≤ y) (hy1 : y < 115792089237316195423570985008687907853269984665640564039457584007913129639936) : 0 ≤ x * y ∧ x * y < 65536 ^ 33 := by
  refine ⟨Int.mul_nonneg hx0 hy0, ?_⟩
  have h1 : x * y ≤ 115792089237316195423570985008687907853269984665640564039457584007913129639936 * y := Int.mul_le_mul_of_nonneg_right (by omega) hy0
  have h2 : (65536 : Int) ^ 33 = 65536 * (115792089237316195423570985008687907853269984665640564039457584007913129639936 * 115792089237316195423570985008687907853269984665640564039457584007913129639936) := by decide
  rw [h2]
  omega

set_option maxHeartbeats 4000000 in
theorem specScMul16 (a b : List Int) (w : World) (ha : a.length = 16) (hb : b.length = 16) (la : Lm a) (lb : Lm b) :
    Calls Tryd.prog 67 #[.agg (I64 a).toArray, .agg (I64 b).toArray] w fun e w' => e = .returned (.agg (I64 (redO (val a * val b))).toArray) ∧ Below w.heap.size w w' := by
  have va := val_lt la
  have vb := val_lt lb
  rw [ha, p256] at va
  rw [hb, p256] at vb
  have hpv := prod_lt (val_nonneg (fun x hx => (la x hx).1)) va (val_nonneg (fun x hx => (lb x hx).1)) vb
  have HV : Hid (val (lim 33 (val a * val b)) = val a * val b) := by unfold Hid; rw [val_lim, Int.emod_eq_of_lt hpv.1 hpv.2]
  obtain ⟨C, hC⟩ : ∃ C : Array Value, C = (I64 Z33).toArray := ⟨_, rfl⟩
  have hmk : ∀ Z : World, (Instr.makeSlice 23 (.int .i64 33) (.int .i64 33)).run Tryd.prog Z = .ok (.slice (some ⟨Z.heap.size, 0, none⟩) 33 33) (Z.alloc (.cells C 3)) := by
    intro Z
    obtain ⟨i0, hi, hz0, hz1, hz2⟩ := info_parts Tryd.info3
    have := run_make (P := Tryd.prog) Z 23 3 i0 (.int .i64 0) Tryd.underlying23 hi hz0 .i64 .i64 33 33 (by omega) (by omega) (by rw [hz2]; omega) (by omega)
    rw [this, hz1, show madeCells (Value.int .i64 0).cells (Int.toNat 33 * 1) = C by rw [hC]; kernel_rfl]
    rfl
  obtain ⟨W, hW⟩ : ∃ W, W = (((w.alloc (.cells (I64 a).toArray 66)).alloc (.cells (I64 b).toArray 66)).alloc (.cells #[.int .i64 0, .int .i64 0, .int .i64 0, .int .i64 0, .int .i64 0, .int .i64 0, .int .i64 0, .int .i64 0, .int .i64 0, .int .i64 0, .int .i64 0, .int .i64 0, .int .i64 0, .int .i64 0, .int .i64 0, .int .i64 0] 66)).alloc (.cells C 3) := ⟨_, rfl⟩
  have h0 : Arr W w.heap.size 66 (I64 a) := by rw [hW]; exact (((Arr.new w (I64 a) _).alloc _).alloc _).alloc _
  have h1 : Arr W (w.heap.size + 1) 66 (I64 b) := by
    rw [hW]
    have := ((Arr.new (w.alloc (.cells (I64 a).toArray 66)) (I64 b) 66).alloc (.cells (I64 Z16).toArray 66)).alloc (.cells C 3)
    rw [World.size_alloc] at this
    exact this
  have h2 : Arr W (w.heap.size + 2) 66 (I64 Z16) := by
    rw [hW]
    have := (Arr.new ((w.alloc (.cells (I64 a).toArray 66)).alloc (.cells (I64 b).toArray 66)) (I64 Z16) 66).alloc (.cells C 3)
    rw [World.size_alloc, World.size_alloc] at this
    exact this
  have h3 : Arr W (w.heap.size + 3) 3 (I64 Z33) := by
    rw [hW, hC]
    have := Arr.new (((w.alloc (.cells (I64 a).toArray 66)).alloc (.cells (I64 b).toArray 66)).alloc (.cells (I64 Z16).toArray 66)) (I64 Z33) 3
    rw [World.size_alloc, World.size_alloc, World.size_alloc] at this
    exact this
  have hBl : Below w.heap.size w W := by rw [hW]; exact ((((Below.refl _ _).alloc (Nat.le_refl _) _).alloc (by simp) _).alloc (by simp; omega) _).alloc (by simp; omega) _
  obtain ⟨A, hA⟩ : ∃ A, A = (I64 a).toArray := ⟨_, rfl⟩
  obtain ⟨B, hB⟩ : ∃ B, B = (I64 b).toArray := ⟨_, rfl⟩
  rw [← hA, ← hB] at hW ⊢
  clear hA hB hC va vb hpv
  go_enter Tryd.func67, Tryd.ntmps67
  go_wp2
  rw [← hW]
  clear hW hmk
  go_loopw [6] (fun i wr => ∃ (k : Nat) (t : List Int), k ≤ 16 ∧ i = .int .i64 k ∧ Tr a b t k 0 ∧ Arr wr w.heap.size 66 (I64 a) ∧ Arr wr (w.heap.size + 1) 66 (I64 b) ∧ Arr wr (w.heap.size + 2) 66 (I64 Z16) ∧ Arr wr (w.heap.size + 3) 3 (I64 t) ∧ Below w.heap.size w wr) (fun i _ => 16 - (intOf i).toNat)
  case atStart => exact ⟨0, Z33, by omega, rfl, Tr.zero a b, h0, h1, h2, h3, hBl⟩
  case round =>
    clear h0 h1 h2 h3 hBl
    obtain ⟨i, t, hi, rfl, TP, h0, h1, h2, h3, hBl⟩ := hrel
    by_cases hi16 : i < 16
    · have hi' : (i : Int) < 16 := by omega
      go_wp2
      go_loopw [7] (fun c wr => ∃ (k : Nat) (t : List Int), k ≤ 16 ∧ c = .int .i64 k ∧ Tr a b t i k ∧ Arr wr w.heap.size 66 (I64 a) ∧ Arr wr (w.heap.size + 1) 66 (I64 b) ∧ Arr wr (w.heap.size + 2) 66 (I64 Z16) ∧ Arr wr (w.heap.size + 3) 3 (I64 t) ∧ Below w.heap.size w wr) (fun c _ => 16 - (intOf c).toNat)
      case atStart => exact ⟨0, t, by omega, rfl, TP, h0, h1, h2, h3, hBl⟩
      case round =>
        clear h0 h1 h2 h3 hBl TP t
        obtain ⟨k, t, hk, rfl, TP, h0, h1, h2, h3, hBl⟩ := hrel
        by_cases hk16 : k < 16
        · obtain ⟨x, hx⟩ : ∃ x, x = a.getD i 0 := ⟨_, rfl⟩
          obtain ⟨y, hy⟩ : ∃ y, y = b.getD k 0 := ⟨_, rfl⟩
          obtain ⟨z, hz⟩ : ∃ z, z = t.getD (i + k) 0 := ⟨_, rfl⟩
          have bx := gD_lm la i
          have by' := gD_lm lb k
          have bz := TP.get (i + k)
          rw [← hx] at bx
          rw [← hy] at by'
          rw [← hz] at bz
          have cx : wr.cell? ⟨w.heap.size, i, none⟩ = some (.int .i64 x) := by rw [hx]; exact h0.i64 i (by omega)
          have cy : wr.cell? ⟨w.heap.size + 1, k, none⟩ = some (.int .i64 y) := by rw [hy]; exact h1.i64 k (by omega)
          have htl := TP.len
          have cz : wr.cell? ⟨w.heap.size + 3, i + k, none⟩ = some (.int .i64 z) := by rw [hz]; exact h3.i64 (i + k) (by omega)
          have hpb := mul_p bx.1 bx.2 by'.1 by'.2
          have TP2 := TP.step hi16 (by omega) hk16 (p := x * y) (by rw [hx, hy]) hpb.1 hpb.2
          rw [← hz] at TP2
          obtain ⟨p, hp⟩ : ∃ p, p = x * y := ⟨_, rfl⟩
          rw [← hp] at TP2 hpb
          have s0 : IntKind.i64.wrap (x * y) = p := by rw [← hp, IntKind.wrap_i64]; omega
          have s1 : IntKind.i64.wrap (z + p) = z + p := by rw [IntKind.wrap_i64]; omega
          have s2 : IntKind.i64.wrap ((i : Int) + (k : Int)) = (i : Int) + (k : Int) := by rw [IntKind.wrap_i64]; omega
          have s3 : ((i : Int) + (k : Int)).toNat = i + k := by omega
          have s4 : (i : Int) + (k : Int) < 33 := by omega
          have s5 : (0 : Int) ≤ (i : Int) + (k : Int) := by omega
          have s6 : (0 : Int) ≤ (i : Int) := by omega
          have s7 : (0 : Int) ≤ (k : Int) := by omega
          have hk' : (k : Int) < 16 := by omega
          have hfz := h3.frozen (i + k)
          have e : (I64 t).set (i + k) (.int .i64 (z + p)) = I64 (t.set (i + k) (z + p)) := by simp
          have h3' := h3.set (i + k) (.int .i64 (z + p))
          rw [e] at h3'
          have h0' := h0.other ⟨w.heap.size + 3, i + k, none⟩ (.int .i64 (z + p)) (by simp)
          have h1' := h1.other ⟨w.heap.size + 3, i + k, none⟩ (.int .i64 (z + p)) (by simp)
          have h2' := h2.other ⟨w.heap.size + 3, i + k, none⟩ (.int .i64 (z + p)) (by simp)
          have hb' := hBl.setCell (p := ⟨w.heap.size + 3, i + k, none⟩) (by simp) (.int .i64 (z + p))
          have H0 : Hid _ := h0'.drew
          have H1 : Hid _ := h1'.drew
          have H2 : Hid _ := h2'.drew
          have H3 : Hid _ := h3'.drew
          have HB : Hid _ := hb'.drew
          have HT : Hid _ := TP2
          clear h0' h1' h2' h3' hb' e h0 h1 h2 h3 hBl hx hy hz TP TP2 hp htl
          go_wp2
          go_region
          clear cx cy cz hfz
          go_wp2
          go_roundw
          case rel => exact ⟨k + 1, _, by omega, by go_num, HT.out, H0.out, H1.out, H2.out, H3.out, HB.out⟩
          case measure => simp [intOf]; omega
        · obtain rfl : k = 16 := by omega
          have TP2 := TP.row hb (by omega)
          clear TP
          go_wp2
          go_roundw
          case rel => exact ⟨i + 1, t, by omega, by go_num, TP2, h0, h1, h2, h3, hBl⟩
          case measure => simp [intOf]; omega
    · obtain rfl : i = 16 := by omega
      have htl := TP.len
      have htv : cps t 0 = lim 33 (val a * val b) := by rw [cps_lim, htl, TP.vl, prodAt_end a b ha, Int.add_zero]
      have htg : ∀ x ∈ t, 0 ≤ x ∧ x < 70368744177664 := fun x hx => by have := TP.le x hx; omega
      have htb := fun k => TP.get k
      have HTV : Hid _ := htv
      have HTB : Hid _ := htb
      clear TP h0 h1 htv htb
      go_wp2
      go_loopw [8, 9] (fun c i wr => ∃ (k : Nat) (d : Int), k ≤ 33 ∧ c = .int .i64 d ∧ d = cpc (t.take k) 0 ∧ i = .int .i64 k ∧ Arr wr (w.heap.size + 2) 66 (I64 Z16) ∧ Arr wr (w.heap.size + 3) 3 (I64 (cps (t.take k) 0 ++ t.drop k)) ∧ Below w.heap.size w wr) (fun _ i _ => 33 - (intOf i).toNat)
      case atStart => exact ⟨0, 0, by omega, rfl, by simp [cpc], rfl, h2, h3, hBl⟩
      case round =>
        clear h2 h3 hBl
        obtain ⟨k, d, hk, rfl, hd, rfl, h2, h3, hBl⟩ := hrel
        have hfl : (cps (t.take k) 0).length = k := by rw [cps_len]; simp; omega
        have hdb := cpc_gr (l := t.take k) (fun x hx => htg x (List.mem_of_mem_take hx)) (c := 0) (by omega) (by omega)
        rw [← hd] at hdb
        by_cases hlt : k < 33
        · obtain ⟨x, hx⟩ : ∃ x, x = t.getD k 0 := ⟨_, rfl⟩
          have bx := HTB.out k
          rw [← hx] at bx
          have cx : wr.cell? ⟨w.heap.size + 3, k, none⟩ = some (.int .i64 x) := by
            rw [h3.i64 k (by rw [len_app hfl (by omega)]; omega), get_app hfl, hx]
          have hts := take_app t k (by omega)
          rw [← hx] at hts
          have hs1 : cps (t.take (k + 1)) 0 = cps (t.take k) 0 ++ [(x + d) % 65536] := by rw [hts, cps_snoc, hd]
          have hs2 : cpc (t.take (k + 1)) 0 = (x + d) / 65536 := by rw [hts, cpc_snoc, hd]
          have hk16 : (k : Int) < 33 := by omega
          have hk0 : (0 : Int) ≤ (k : Int) := by omega
          have hfz := h3.frozen k
          have h3' := h3.set k (.int .i64 ((x + d) % 65536))
          rw [set_app hfl (show k < t.length by omega), ← hs1] at h3'
          have h2' := h2.other ⟨w.heap.size + 3, k, none⟩ (.int .i64 ((x + d) % 65536)) (by simp)
          have hb' := hBl.setCell (p := ⟨w.heap.size + 3, k, none⟩) (by simp) (.int .i64 ((x + d) % 65536))
          have s1 : IntKind.i64.wrap (x + d) = x + d := by rw [IntKind.wrap_i64]; omega
          have s2 : bits .and .i64 (x + d) 65535 = (x + d) % 65536 := i64_low16 (by omega) (by omega)
          have H2 : Hid _ := h2'
          have H3 : Hid _ := h3'
          have HB : Hid _ := hb'
          have HC : Hid _ := hs2
          clear h3' h2' hb' h2 h3 hBl hx hd hts hs1 hs2
          go_wp2
          go_roundw
          case rel => exact ⟨k + 1, (x + d) / 65536, by omega, rfl, HC.out.symm, by go_num, H2.out, H3.out, HB.out⟩
          case measure => simp [intOf]; omega
        · obtain rfl : k = 33 := by omega
          rw [List.take_of_length_le (by omega), List.drop_eq_nil_of_le (by omega), List.append_nil, HTV.out] at h3
          have hLl : (lim 33 (val a * val b)).length = 33 := lim_len _ _
          have hLm : Lm (lim 33 (val a * val b)) := lim_lm _ _
          have hres := HV.out
          obtain ⟨L, hL⟩ : ∃ L, L = lim 33 (val a * val b) := ⟨_, rfl⟩
          rw [← hL] at h3 hLl hLm hres
          have hIs : Is wr (some ⟨w.heap.size + 3, 0, none⟩) 33 33 L := ⟨(fun h => by cases h), hLl, Nat.le_refl _, fun x hx => by have := hLm x hx; omega, .inr ⟨w.heap.size + 3, 0, rfl, h3.lt, fun j hj => by simpa using h3.i64 j (by omega)⟩⟩
          have HM := specMod (some ⟨w.heap.size + 3, 0, none⟩) 33 33 L wr hIs hLm (by omega)
          rw [hres] at HM
          have HM' : Hid (Calls Tryd.prog 78 #[.slice (some ⟨w.heap.size + 3, 0, none⟩) 33 33] wr fun e w' => e = .returned (.agg (I64 (redO (val a * val b))).toArray) ∧ Below wr.heap.size wr w') := HM
          clear HM hIs hL hLl hLm hres hfl hd hdb h3 HTV HTB
          go_wp2_with fail
          refine HM'.out.mono ?_
          rintro e w5 ⟨rfl, hb5⟩
          have h25 := h2.kept hb5
          have hB5 := hBl.trans (hb5.mono hBl.size)
          have hRl := redO_len (val a * val b)
          obtain ⟨R, hR⟩ : ∃ R, R = redO (val a * val b) := ⟨_, rfl⟩
          rw [← hR] at hRl ⊢
          have hir : (Tryd.prog.info? 66).map (·.size) = some (I64 R).toArray.size := by simpa [hRl] using infoE
          have HR : Hid _ := hR
          have hr := h25.row (I64 R)
          have hbl := setRow_below hB5 (w.heap.size + 2) (I64 R).toArray (by omega)
          clear hR h2 hBl hb5 HM'
          go_wp2_with (refine wpList_store_row rfl 66 _ _ rfl (w.heap.size + 2) (I64 R).toArray rfl rfl 66 _ h25 hir (by simp [hRl]) (by simp [Value.oneCell']) ?_)
          exact bodyPost_ret (results_cell_row rfl _ _ (w.heap.size + 2) 66 (I64 R).toArray (0, 0) _ rfl hr Tryd.underlying66 rfl hir) rfl ⟨by rw [HR.out], hbl⟩
end Go.Proofs.YtlafcjoccbinaaaDoor
namespace Go.Proofs.YtlafcjoccbinaaaDoor
open Go.RowKit
set_option maxRecDepth 100000

/-- Two arguments and the result's cell, through whatever keeps what is there. -/
structure S3 (w W : World) (va vb : Value) : Prop where
  fr : Below w.heap.size w W
  pa : Arr W w.heap.size 25 [va]
  pb : Arr W (w.heap.size + 1) 25 [vb]
  pr : Arr W (w.heap.size + 1 + 1) 25 [.slice none 0 0]
theorem S3.go {w A B : World} {va vb : Value} (h : S3 w A va vb) (hb : Below A.heap.size A B) : S3 w B va vb := ⟨h.fr.trans (hb.mono h.fr.size), h.pa.kept hb, h.pb.kept hb, h.pr.kept hb⟩
theorem S3.two {w W : World} {va vb : Value} (h : S3 w W va vb) : W.cell? ⟨w.heap.size, 0, none⟩ = some va ∧ W.cell? ⟨w.heap.size + 1, 0, none⟩ = some vb := ⟨h.pa.cell 0, h.pb.cell 0⟩
theorem S3.new (w : World) (va vb : Value) : S3 w (((w.alloc (.cells #[va] 25)).alloc (.cells #[vb] 25)).alloc (.cells #[.slice none 0 0] 25)) va vb := by
  refine ⟨(((Below.refl _ _).alloc (Nat.le_refl _) _).alloc (by simp) _).alloc (by simp; omega) _, ((Arr.new w [va] _).alloc _).alloc _, ?_, ?_⟩
  · have := (Arr.new (w.alloc (.cells #[va] 25)) [vb] 25).alloc (.cells #[.slice none 0 0] 25)
    rw [World.size_alloc] at this
    exact this
  · have := Arr.new ((w.alloc (.cells #[va] 25)).alloc (.cells #[vb] 25)) [.slice none 0 0] 25
    rw [World.size_alloc, World.size_alloc] at this
    exact this
/-- The store of the answer. -/
theorem S3.put {w W : World} {va vb : Value} (h : S3 w W va vb) (v : Value) : (W.setCell ⟨w.heap.size + 1 + 1, 0, none⟩ v).cell? ⟨w.heap.size, 0, none⟩ = some va ∧ (W.setCell ⟨w.heap.size + 1 + 1, 0, none⟩ v).cell? ⟨w.heap.size + 1, 0, none⟩ = some vb :=
  ⟨(h.pa.other ⟨w.heap.size + 1 + 1, 0, none⟩ v (by show w.heap.size ≠ w.heap.size + 1 + 1; omega)).cell 0, (h.pb.other ⟨w.heap.size + 1 + 1, 0, none⟩ v (by show w.heap.size + 1 ≠ w.heap.size + 1 + 1; omega)).cell 0⟩
/-- What a function of two numbers answers. -/
def sc2 (f : Int → Int → Int) (xs ys : List Int) : List Int := if (scOk xs && scOk ys) = true then redO (f (val xs) (val ys)) else []

set_option maxHeartbeats 2000000 in
theorem specScAdd (a : Option Addr) (n c : Nat) (xs : List Int) (b : Option Addr) (m d : Nat) (ys : List Int) (w : World) (hx : Is w a n c xs) (hy : Is w b m d ys) :
    Calls Tryd.prog 33 #[.agg #[.slice a n c], .agg #[.slice b m d]] w fun e w' => ∃ v, e = .returned (.tuple #[v, .bool (scOk xs && scOk ys)]) ∧ ScIs w w' v (sc2 (· + ·) xs ys) ∧ Below w.heap.size w w' := by
  obtain ⟨L, hL⟩ : ∃ L, L = sc2 (· + ·) xs ys := ⟨_, rfl⟩
  rw [← hL]
  have HL0 : Hid ((scOk xs && scOk ys) = false → L = []) := by unfold Hid; intro h; rw [hL]; unfold sc2; rw [h]; rfl
  have HL1 : Hid (scOk xs = true → scOk ys = true → L = redO (val xs + val ys)) := by unfold Hid; intro h h'; rw [hL]; unfold sc2; rw [h, h']; rfl
  clear hL
  have EE : S3 w _ (.slice a n c) (.slice b m d) := S3.new w (.slice a n c) (.slice b m d)
  obtain ⟨W, hW⟩ : ∃ W, W = ((w.alloc (.cells #[.slice a n c] 25)).alloc (.cells #[.slice b m d] 25)).alloc (.cells #[.slice none 0 0] 25) := ⟨_, rfl⟩
  rw [← hW] at EE
  obtain ⟨p, hp⟩ : ∃ p, p = scOk xs := ⟨_, rfl⟩
  obtain ⟨q, hq⟩ : ∃ q, q = scOk ys := ⟨_, rfl⟩
  have HP : Hid _ := hp
  have HQ : Hid _ := hq
  rw [← hp, ← hq] at HL0 ⊢
  clear hp hq
  go_enter Tryd.func33, Tryd.ntmps33
  go_wp2_with fail
  rw [← hW]
  clear hW
  refine (specScOk a n c xs _ (hx.below EE.fr)).mono ?_
  rintro e w1 ⟨rfl, hb1⟩
  replace EE := EE.go hb1
  clear hb1
  rw [← HP.out]
  have hca := EE.pa.cell 0
  have hcb := EE.pb.cell 0
  have hcr := EE.pr.cell 0
  have hfr := EE.pr.frozen 0
  cases p with
  | false =>
    have HA : Hid _ := EE.pr.set 0 (.slice none 0 0)
    have HB : Hid _ := EE.fr.setCell (p := ⟨w.heap.size + 1 + 1, 0, none⟩) (by show w.heap.size ≤ w.heap.size + 1 + 1; omega) (.slice none 0 0)
    have HE : Hid (L = []) := HL0.out rfl
    clear EE HL0 HL1 HP HQ
    simp only [List.getElem?_cons_zero] at hca hcb hcr
    go_wp2
    exact bodyPost_ret (results_row_tmp (v := .bool false) (cs := [.slice none 0 0]) rfl rfl rfl HA.out Tryd.underlying25 rfl infoSc) rfl ⟨_, rfl, HE.out ▸ scIs_nil _ _, HB.out⟩
  | true =>
    simp only [List.getElem?_cons_zero] at hca hcb hcr
    go_wp2_with fail
    clear hca hcb hcr hfr
    refine (specScOk b m d ys _ (hy.below EE.fr)).mono ?_
    rintro e w2 ⟨rfl, hb2⟩
    replace EE := EE.go hb2
    clear hb2
    rw [← HQ.out]
    have hca := EE.pa.cell 0
    have hcb := EE.pb.cell 0
    have hcr := EE.pr.cell 0
    have hfr := EE.pr.frozen 0
    simp only [List.getElem?_cons_zero] at hca hcb hcr
    cases q with
    | false =>
      have HA : Hid _ := EE.pr.set 0 (.slice none 0 0)
      have HB : Hid _ := EE.fr.setCell (p := ⟨w.heap.size + 1 + 1, 0, none⟩) (by show w.heap.size ≤ w.heap.size + 1 + 1; omega) (.slice none 0 0)
      have HE : Hid (L = []) := HL0.out rfl
      clear EE HL0 HL1 HP HQ
      go_wp2
      exact bodyPost_ret (results_row_tmp (v := .bool false) (cs := [.slice none 0 0]) rfl rfl rfl HA.out Tryd.underlying25 rfl infoSc) rfl ⟨_, rfl, HE.out ▸ scIs_nil _ _, HB.out⟩
    | true =>
      clear hca hcb hcr hfr
      obtain ⟨xl, xm, xv⟩ := (scOk_iff xs).1 HP.out.symm
      obtain ⟨yl, ym, yv⟩ := (scOk_iff ys).1 HQ.out.symm
      obtain rfl : n = 16 := by have := hx.2.1; omega
      obtain rfl : m = 16 := by have := hy.2.1; omega
      have hLr := HL1.out HP.out.symm HQ.out.symm
      have hLl : L.length = 16 := by rw [hLr]; exact redO_len _
      have hLm : Lm L := by rw [hLr]; exact redO_lm _
      have HOP : Hid (∀ Z, Calls Tryd.prog 65 #[.agg (I64 xs).toArray, .agg (I64 ys).toArray] Z fun e w' => e = .returned (.agg (I64 L).toArray) ∧ Below Z.heap.size Z w') := by
        unfold Hid; intro Z; rw [hLr]; exact specScAdd16 xs ys Z xl yl xm ym xv yv
      have HXI : Hid (∀ Z, Below w.heap.size w Z → Calls Tryd.prog 66 #[.agg #[.slice a 16 c]] Z fun e w' => e = .returned (.agg (I64 xs).toArray) ∧ Below Z.heap.size Z w') := by
        unfold Hid; intro Z hZ; exact specScIn a c xs Z (hx.below hZ)
      have HYI : Hid (∀ Z, Below w.heap.size w Z → Calls Tryd.prog 66 #[.agg #[.slice b 16 d]] Z fun e w' => e = .returned (.agg (I64 ys).toArray) ∧ Below Z.heap.size Z w') := by
        unfold Hid; intro Z hZ; exact specScIn b d ys Z (hy.below hZ)
      clear HL0 HL1 HP HQ hLr xl xm xv yl ym yv hx hy
      replace EE : S3 w w2.drew (.slice a 16 c) (.slice b 16 d) := EE.go (Below.refl _ _).drew
      go_wp2
      go_region_held3 (fun W => W.cell? ⟨w.heap.size, 0, none⟩ = some (.slice a 16 c) ∧ W.cell? ⟨w.heap.size + 1, 0, none⟩ = some (.slice b 16 d))
        (first
          | exact EE.two
          | exact hS5)
        ((first
          | (go_at_call_of 66 (Value.agg #[Value.slice a 16 c]); refine (HXI.out _ EE.fr).mono ?_; rintro e w3 ⟨rfl, hb3⟩; replace EE := EE.go hb3; clear hb3)
          | (go_at_call_of 66 (Value.agg #[Value.slice b 16 d]); refine (HYI.out _ EE.fr).mono ?_; rintro e w4 ⟨rfl, hb4⟩; replace EE := EE.go hb4; clear hb4)
          | (go_at_call 65; refine (HOP.out _).mono ?_; rintro e w5 ⟨rfl, hb5⟩; replace EE := EE.go hb5; clear hb5)
          | (go_at_call 61; refine (specScOut L _ hLl hLm).mono ?_; rintro e w6 ⟨a', c', rfl, ho, hb6⟩; have hlt := EE.pr.lt; have hsz := EE.fr.size; replace EE := EE.go hb6; have hS5 := EE.put (.slice a' 16 c'); have HO : Hid _ := own_base (own_other' ho ⟨w.heap.size + 1 + 1, 0, none⟩ (.slice a' 16 c') hlt) hsz; have hcr : w6.cell? ⟨w.heap.size + 1 + 1, 0, none⟩ = some (.slice none 0 0) := EE.pr.cell 0; have hfr := EE.pr.frozen 0; have HA : Hid _ := EE.pr.set 0 (.slice a' 16 c'); have HB : Hid _ := EE.fr.setCell (p := ⟨w.heap.size + 1 + 1, 0, none⟩) (by show w.heap.size ≤ w.heap.size + 1 + 1; omega) (.slice a' 16 c'); clear ho hb6 hsz)))
      all_goals
        go_wp2
        exact bodyPost_ret (results_row_tmp (v := .bool true) (cs := [.slice a' 16 c']) rfl rfl rfl HA.out Tryd.underlying25 rfl infoSc) rfl ⟨_, rfl, scIs_16 hLl HO.out, HB.out⟩
set_option maxHeartbeats 2000000 in
theorem specScMul (a : Option Addr) (n c : Nat) (xs : List Int) (b : Option Addr) (m d : Nat) (ys : List Int) (w : World) (hx : Is w a n c xs) (hy : Is w b m d ys) :
    Calls Tryd.prog 34 #[.agg #[.slice a n c], .agg #[.slice b m d]] w fun e w' => ∃ v, e = .returned (.tuple #[v, .bool (scOk xs && scOk ys)]) ∧ ScIs w w' v (sc2 (· * ·) xs ys) ∧ Below w.heap.size w w' := by
  obtain ⟨L, hL⟩ : ∃ L, L = sc2 (· * ·) xs ys := ⟨_, rfl⟩
  rw [← hL]
  have HL0 : Hid ((scOk xs && scOk ys) = false → L = []) := by unfold Hid; intro h; rw [hL]; unfold sc2; rw [h]; rfl
  have HL1 : Hid (scOk xs = true → scOk ys = true → L = redO (val xs * val ys)) := by unfold Hid; intro h h'; rw [hL]; unfold sc2; rw [h, h']; rfl
  clear hL
  have EE : S3 w _ (.slice a n c) (.slice b m d) := S3.new w (.slice a n c) (.slice b m d)
  obtain ⟨W, hW⟩ : ∃ W, W = ((w.alloc (.cells #[.slice a n c] 25)).alloc (.cells #[.slice b m d] 25)).alloc (.cells #[.slice none 0 0] 25) := ⟨_, rfl⟩
  rw [← hW] at EE
  obtain ⟨p, hp⟩ : ∃ p, p = scOk xs := ⟨_, rfl⟩
  obtain ⟨q, hq⟩ : ∃ q, q = scOk ys := ⟨_, rfl⟩
  have HP : Hid _ := hp
  have HQ : Hid _ := hq
  rw [← hp, ← hq] at HL0 ⊢
  clear hp hq
  go_enter Tryd.func34, Tryd.ntmps34
  go_wp2_with fail
  rw [← hW]
  clear hW
  refine (specScOk a n c xs _ (hx.below EE.fr)).mono ?_
  rintro e w1 ⟨rfl, hb1⟩
  replace EE := EE.go hb1
  clear hb1
  rw [← HP.out]
  have hca := EE.pa.cell 0
  have hcb := EE.pb.cell 0
  have hcr := EE.pr.cell 0
  have hfr := EE.pr.frozen 0
  cases p with
  | false =>
    have HA : Hid _ := EE.pr.set 0 (.slice none 0 0)
    have HB : Hid _ := EE.fr.setCell (p := ⟨w.heap.size + 1 + 1, 0, none⟩) (by show w.heap.size ≤ w.heap.size + 1 + 1; omega) (.slice none 0 0)
    have HE : Hid (L = []) := HL0.out rfl
    clear EE HL0 HL1 HP HQ
    simp only [List.getElem?_cons_zero] at hca hcb hcr
    go_wp2
    exact bodyPost_ret (results_row_tmp (v := .bool false) (cs := [.slice none 0 0]) rfl rfl rfl HA.out Tryd.underlying25 rfl infoSc) rfl ⟨_, rfl, HE.out ▸ scIs_nil _ _, HB.out⟩
  | true =>
    simp only [List.getElem?_cons_zero] at hca hcb hcr
    go_wp2_with fail
    clear hca hcb hcr hfr
    refine (specScOk b m d ys _ (hy.below EE.fr)).mono ?_
    rintro e w2 ⟨rfl, hb2⟩
    replace EE := EE.go hb2
    clear hb2
    rw [← HQ.out]
    have hca := EE.pa.cell 0
    have hcb := EE.pb.cell 0
    have hcr := EE.pr.cell 0
    have hfr := EE.pr.frozen 0
    simp only [List.getElem?_cons_zero] at hca hcb hcr
    cases q with
    | false =>
      have HA : Hid _ := EE.pr.set 0 (.slice none 0 0)
      have HB : Hid _ := EE.fr.setCell (p := ⟨w.heap.size + 1 + 1, 0, none⟩) (by show w.heap.size ≤ w.heap.size + 1 + 1; omega) (.slice none 0 0)
      have HE : Hid (L = []) := HL0.out rfl
      clear EE HL0 HL1 HP HQ
      go_wp2
      exact bodyPost_ret (results_row_tmp (v := .bool false) (cs := [.slice none 0 0]) rfl rfl rfl HA.out Tryd.underlying25 rfl infoSc) rfl ⟨_, rfl, HE.out ▸ scIs_nil _ _, HB.out⟩
    | true =>
      clear hca hcb hcr hfr
      obtain ⟨xl, xm, xv⟩ := (scOk_iff xs).1 HP.out.symm
      obtain ⟨yl, ym, yv⟩ := (scOk_iff ys).1 HQ.out.symm
      obtain rfl : n = 16 := by have := hx.2.1; omega
      obtain rfl : m = 16 := by have := hy.2.1; omega
      have hLr := HL1.out HP.out.symm HQ.out.symm
      have hLl : L.length = 16 := by rw [hLr]; exact redO_len _
      have hLm : Lm L := by rw [hLr]; exact redO_lm _
      have HOP : Hid (∀ Z, Calls Tryd.prog 67 #[.agg (I64 xs).toArray, .agg (I64 ys).toArray] Z fun e w' => e = .returned (.agg (I64 L).toArray) ∧ Below Z.heap.size Z w') := by
        unfold Hid; intro Z; rw [hLr]; exact specScMul16 xs ys Z xl yl xm ym
      have HXI : Hid (∀ Z, Below w.heap.size w Z → Calls Tryd.prog 66 #[.agg #[.slice a 16 c]] Z fun e w' => e = .returned (.agg (I64 xs).toArray) ∧ Below Z.heap.size Z w') := by
        unfold Hid; intro Z hZ; exact specScIn a c xs Z (hx.below hZ)
      have HYI : Hid (∀ Z, Below w.heap.size w Z → Calls Tryd.prog 66 #[.agg #[.slice b 16 d]] Z fun e w' => e = .returned (.agg (I64 ys).toArray) ∧ Below Z.heap.size Z w') := by
        unfold Hid; intro Z hZ; exact specScIn b d ys Z (hy.below hZ)
      clear HL0 HL1 HP HQ hLr xl xm xv yl ym yv hx hy
      replace EE : S3 w w2.drew (.slice a 16 c) (.slice b 16 d) := EE.go (Below.refl _ _).drew
      go_wp2
      go_region_held3 (fun W => W.cell? ⟨w.heap.size, 0, none⟩ = some (.slice a 16 c) ∧ W.cell? ⟨w.heap.size + 1, 0, none⟩ = some (.slice b 16 d))
        (first
          | exact EE.two
          | exact hS5)
        ((first
          | (go_at_call_of 66 (Value.agg #[Value.slice a 16 c]); refine (HXI.out _ EE.fr).mono ?_; rintro e w3 ⟨rfl, hb3⟩; replace EE := EE.go hb3; clear hb3)
          | (go_at_call_of 66 (Value.agg #[Value.slice b 16 d]); refine (HYI.out _ EE.fr).mono ?_; rintro e w4 ⟨rfl, hb4⟩; replace EE := EE.go hb4; clear hb4)
          | (go_at_call 67; refine (HOP.out _).mono ?_; rintro e w5 ⟨rfl, hb5⟩; replace EE := EE.go hb5; clear hb5)
          | (go_at_call 61; refine (specScOut L _ hLl hLm).mono ?_; rintro e w6 ⟨a', c', rfl, ho, hb6⟩; have hlt := EE.pr.lt; have hsz := EE.fr.size; replace EE := EE.go hb6; have hS5 := EE.put (.slice a' 16 c'); have HO : Hid _ := own_base (own_other' ho ⟨w.heap.size + 1 + 1, 0, none⟩ (.slice a' 16 c') hlt) hsz; have hcr : w6.cell? ⟨w.heap.size + 1 + 1, 0, none⟩ = some (.slice none 0 0) := EE.pr.cell 0; have hfr := EE.pr.frozen 0; have HA : Hid _ := EE.pr.set 0 (.slice a' 16 c'); have HB : Hid _ := EE.fr.setCell (p := ⟨w.heap.size + 1 + 1, 0, none⟩) (by show w.heap.size ≤ w.heap.size + 1 + 1; omega) (.slice a' 16 c'); clear ho hb6 hsz)))
      all_goals
        go_wp2
        exact bodyPost_ret (results_row_tmp (v := .bool true) (cs := [.slice a' 16 c']) rfl rfl rfl HA.out Tryd.underlying25 rfl infoSc) rfl ⟨_, rfl, scIs_16 hLl HO.out, HB.out⟩
end Go.Proofs.YtlafcjoccbinaaaDoor

/-
  What is proved here: contracts of the program's methods sum and orderSettled: the sum of two multipliers; what is below 2^270 brought below the order; where the program's variable holds the order; the contract of the program's method longer: a column put below a multiplier; where the program's variable holds the order.
-/
import Derived.Test.YtihoaakbkffejaaDoorZJrd
import Derived.Laws.CopyRow
import Derived.Shelf.Spec.SlicesInsert
namespace Go.Proofs.YtihoaakbkffejaaDoor
open Go.RowKit
set_option maxRecDepth 100000

set_option maxHeartbeats 2000000 in
theorem implOrderSettled (m : List Int) (w : World) (hm : m.length = 16) (hq : Sq (val m)) (hV : Vr w 5 (I64 OL)) :
    Calls Tryd.prog 79 #[.agg (I64 (crd m)).toArray] w fun e w' => e = .returned (.agg (I64 (redO (val m))).toArray) ∧ Below w.heap.size w w' := by
  have hg0 := hV.lt
  obtain ⟨n, hn⟩ : ∃ n, n = crd m := ⟨_, rfl⟩
  have hl : n.length = 16 := by rw [hn]; exact crd_len hm
  obtain ⟨t, ht⟩ : ∃ t, t = tms (val m) := ⟨_, rfl⟩
  have hlast : n.getD 15 0 / 4096 - 1 = t := by rw [hn, crd_last hm, ht]; rfl
  have htb := tms_bd hq
  have hcb := crd_bdS hm hq
  rw [← hn] at hcb
  rw [← ht] at htb
  have hx15 := getD_of (p := fun x => 0 ≤ x ∧ x < 1073741824) hcb (by omega) 15
  obtain ⟨x15, hx15e⟩ : ∃ x, x = n.getD 15 0 := ⟨_, rfl⟩
  rw [← hx15e] at hx15 hlast
  obtain ⟨zs, hzs⟩ : ∃ zs, zs = ost t n := ⟨_, rfl⟩
  have hzl : zs.length = 16 := by rw [hzs]; exact ost_len hl
  have hzc : Cb zs := by rw [hzs]; exact cb_of (ost_bd htb.1 htb.2 hcb)
  have hzx : ∀ k, k < 16 → zs.getD k 0 = n.getD k 0 - t * OL.getD k 0 := by
    intro k hk
    rw [hzs]
    exact zip_at _ hl OL_len k hk
  have hst := settled hm hq
  rw [← ht, ← hn, ← hzs] at hst
  obtain ⟨X, hX⟩ : ∃ X, X = val m - t * qO := ⟨_, rfl⟩
  have hXb := tms_val hq
  rw [← ht, ← hX] at hXb
  rw [← hX] at hst
  obtain ⟨R, hR⟩ : ∃ R, R = redO (val m) := ⟨_, rfl⟩
  have hRl : R.length = 16 := by rw [hR]; exact redO_len _
  have hXR : redO X = R := by
    have hls := lessO hXb.1 hXb.2
    rw [hR, ← hst.2]
    split
    · rename_i h; exact (hls.1 h).symm
    · rename_i h; exact (hls.2 h).symm
  have HCR : Hid (∀ Z, Calls Tryd.prog 78 #[.agg (I64 zs).toArray] Z fun e w' => e = .returned (.agg (I64 (lim 16 X)).toArray) ∧ Below Z.heap.size Z w') := by
    unfold Hid; intro Z
    have := implCarried zs Z hzl hzc
    rw [hst.1] at this
    exact this
  have HLS : Hid (∀ Z, Calls Tryd.prog 88 #[.agg (I64 (lim 16 X)).toArray, .agg (I64 OL).toArray] Z fun e w' => e = .returned (.agg (I64 R).toArray) ∧ Below Z.heap.size Z w') := by
    unfold Hid; intro Z; rw [← hXR]; exact implLessO _ Z hXb.1 hXb.2
  have HZX : Hid _ := hzx
  have HCB : Hid _ := hcb
  rw [← hn, ← hR]
  obtain ⟨T, hT⟩ : ∃ T, T = lim 16 X := ⟨_, rfl⟩
  rw [← hT] at HCR HLS
  obtain ⟨W, hW⟩ : ∃ W, W = (w.alloc (.cells (I64 n).toArray 81)).alloc (.cells #[.int .i64 0, .int .i64 0, .int .i64 0, .int .i64 0, .int .i64 0, .int .i64 0, .int .i64 0, .int .i64 0, .int .i64 0, .int .i64 0, .int .i64 0, .int .i64 0, .int .i64 0, .int .i64 0, .int .i64 0, .int .i64 0] 85) := ⟨_, rfl⟩
  have EE : M2 w W n := by rw [hW]; exact M2.new n hV
  have c15 : W.cell? ⟨w.heap.size, 15, none⟩ = some (.int .i64 x15) := by rw [EE.pa.i64 15 (by omega), hx15e]
  obtain ⟨A, hA⟩ : ∃ A, A = (I64 n).toArray := ⟨_, rfl⟩
  rw [← hA] at hW ⊢
  rw [hW] at c15
  have s0 : IntKind.i64.wrap (x15 / 4096 - 1) = t := by rw [hlast, IntKind.wrap_i64]; omega
  obtain ⟨gt, gz, hg⟩ := EE.vr
  have hg0 := hW ▸ hg
  have hip : (Tryd.prog.info? 81).map (·.size) = some (I64 OL).toArray.size := infoL
  have hw0 := hV.lt
  clear hn ht hlast hcb hzs hzc hzx hst hX hXb hR hXR hT hA hV hq hm hx15e
  go_enter Tryd.func79, Tryd.ntmps79
  go_wp2_with (refine wpList_load_row rfl 81 _ rfl 5 rfl gt (I64 OL).toArray gz _ hg0 Tryd.underlying81 rfl hip ?_)
  rw [← hW]
  clear hW c15 hg0 hg
  have h0 : Arr W w.heap.size 81 (I64 (zs.take 0 ++ n.drop 0)) := EE.pa
  have h1 := EE.pr
  have h2 := EE.vr
  have hBl := EE.fr
  clear EE
  go_loopw [11] (fun i wr => ∃ k : Nat, k ≤ 16 ∧ i = .int .i64 k ∧ Arr wr w.heap.size 81 (I64 (zs.take k ++ n.drop k)) ∧ Arr wr (w.heap.size + 1) 85 (I64 Z16) ∧ Vr wr 5 (I64 OL) ∧ Below w.heap.size w wr) (fun i _ => 16 - (intOf i).toNat)
  case atStart => exact ⟨0, by omega, rfl, h0, h1, h2, hBl⟩
  case round =>
    clear h0 h1 h2 hBl
    obtain ⟨k, hk, rfl, h0, h1, h2, hBl⟩ := hrel
    have hfl : (zs.take k).length = k := by simp; omega
    by_cases hlt : k < 16
    · obtain ⟨x, hx⟩ : ∃ x, x = n.getD k 0 := ⟨_, rfl⟩
      obtain ⟨y, hy⟩ : ∃ y, y = OL.getD k 0 := ⟨_, rfl⟩
      have ix := fun w => index_arr Tryd.underlying81 Tryd.underlying3 infoL1 OL OL_len k hlt w
      rw [← hy] at ix
      have cx : wr.cell? ⟨w.heap.size, k, none⟩ = some (.int .i64 x) := by
        rw [h0.i64 k (by rw [len_app hfl (by omega)]; omega), get_app hfl, hx]
      have bx := getD_of (p := fun x => 0 ≤ x ∧ x < 1073741824) HCB.out (by omega) k
      have by' := gD_lm OL_lm k
      rw [← hx] at bx
      rw [← hy] at by'
      have hz := HZX.out k hlt
      rw [← hx, ← hy] at hz
      obtain ⟨p, hp⟩ : ∃ p, p = t * y := ⟨_, rfl⟩
      have hp0 : -65536 ≤ p ∧ p ≤ 17179869184 := by
        have a1 : t * y ≤ 262144 * y := Int.mul_le_mul_of_nonneg_right (by omega) by'.1
        have a2 : -1 * y ≤ t * y := Int.mul_le_mul_of_nonneg_right htb.1 by'.1
        omega
      rw [← hp] at hz
      have hts := take_app zs k (by omega)
      rw [hz] at hts
      have hfz := h0.frozen k
      have h0' := h0.set k (.int .i64 (x - p))
      rw [set_app hfl (show k < n.length by omega), ← hts] at h0'
      have h1' := h1.other ⟨w.heap.size, k, none⟩ (.int .i64 (x - p)) (by simp)
      have h2' := h2.other ⟨w.heap.size, k, none⟩ (.int .i64 (x - p)) (by simp only; omega)
      have hb' := hBl.setCell (p := ⟨w.heap.size, k, none⟩) (Nat.le_refl _) (.int .i64 (x - p))
      have s1 : IntKind.i64.wrap (t * y) = p := by rw [← hp, IntKind.wrap_i64]; omega
      have s2 : IntKind.i64.wrap (x - p) = x - p := by rw [IntKind.wrap_i64]; omega
      have hk16 : (k : Int) < 16 := by omega
      have hk0 : (0 : Int) ≤ (k : Int) := by omega
      have H0 : Hid _ := h0'
      have H1 : Hid _ := h1'
      have H2 : Hid _ := h2'
      have HB : Hid _ := hb'
      clear h0' h1' h2' hb' h0 h1 h2 hBl hx hy hz hts hp
      go_wp2
      go_roundw
      case rel => exact ⟨k + 1, by omega, by go_num, H0.out, H1.out, H2.out, HB.out⟩
      case measure => simp [intOf]; omega
    · obtain rfl : k = 16 := by omega
      rw [List.take_of_length_le (by omega), List.drop_eq_nil_of_le (by omega), List.append_nil] at h0
      have EE : M2 w wr.drew zs := (⟨hBl, h0, h1, h2, hg0⟩ : M2 w wr zs).go (Below.refl _ _).drew
      have hone := one_lm R
      have hu : Tryd.prog.underlying 81 = some (.array 16 3) := Tryd.underlying81
      have hiz : (Tryd.prog.info? 81).map (·.size) = some (I64 zs).length := by simpa [hzl] using infoL
      have hio : (Tryd.prog.info? 81).map (·.size) = some (I64 OL).length := infoL
      have hir : (Tryd.prog.info? 85).map (·.size) = some (I64 R).toArray.size := by simpa [hRl] using infoM
      clear hfl h0 h1 h2 hBl HZX HCB
      go_wp2
      refine wp_region_held_drew (S := fun W => W.rangeAt w.heap.size 0 (I64 zs) ∧ W.rangeAt 5 0 (I64 OL)) (by kernel_rfl) EE.all (fun hHeld => ?_)
      refine wpAnyH_take (i := 0) (oi := { dst := some 24, op := Op.load 81 (Operand.tmp 1), type := 81, pos := "l05_scalar.go:122", after := #[], guard := none }) (v := _) rfl (by kernel_rfl) (by kernel_rfl) (by kernel_rfl) (fun _ _ _ h => h) (yieldsIf_load_mid (by rfl) _ _ rfl _ _ rfl (I64 zs) _ (fun _ h => h.1) hu rfl hiz) (by assumption) ?_
      simp only [Act.put, List.setIfInBounds_toArray, List.set_cons_zero, List.set_cons_succ]
      refine wpAnyH_take (i := 2) (oi := { dst := some 26, op := Op.load 81 (Operand.global 5), type := 81, pos := "l05_scalar.go:122", after := #[], guard := none }) (v := _) rfl (by kernel_rfl) (by kernel_rfl) (by kernel_rfl) (fun _ _ _ h => h) (yieldsIf_load_mid (by rfl) _ _ rfl _ _ rfl (I64 OL) _ (fun _ h => h.2) hu rfl hio) (by assumption) ?_
      simp only [Act.put, List.setIfInBounds_toArray, List.set_cons_zero, List.set_cons_succ]
      refine wpAnyH_ready (rs := [1]) (by kernel_rfl) (by simp) (AllReadyH.cons (o := { dst := some 25, op := Op.call { callee := Callee.value (Operand.func 78), args := #[Operand.tmp 24], argTypes := #[81] }, type := 81, pos := "l05_scalar.go:122", after := #[{ on := 0, ground := Ground.data }], guard := none }) rfl (fun K hK => ?_) AllReadyH.nil)
      go_simp
      refine (HCR.out _).mono ?_
      rintro e w1 ⟨rfl, hb1⟩
      replace EE := EE.go hb1
      go_wp2_with fail
      refine hK.out _ _ EE.all (fun hHeld => ?_)
      clear hK K hb1
      refine wpAnyH_ready (rs := [3]) (by kernel_rfl) (by simp) (AllReadyH.cons (o := { dst := some 27, op := Op.call { callee := Callee.value (Operand.func 88), args := #[Operand.tmp 25, Operand.tmp 26], argTypes := #[81, 81] }, type := 81, pos := "l05_scalar.go:122", after := #[{ on := 1, ground := Ground.data }, { on := 2, ground := Ground.data }, { on := 1, ground := Ground.chain }], guard := none }) rfl (fun K hK => ?_) AllReadyH.nil)
      go_simp
      refine (HLS.out _).mono ?_
      rintro e w2 ⟨rfl, hb2⟩
      replace EE := EE.go hb2
      go_wp2_with fail
      refine hK.out _ _ EE.all (fun hHeld => ?_)
      clear hK K hb2
      refine wpAnyH_take (i := 4) (oi := { dst := some 28, op := Op.build 85 #[(0, Operand.tmp 27)], type := 85, pos := "l05_scalar.go:122", after := #[{ on := 3, ground := Ground.data }], guard := none }) (v := _) rfl (by kernel_rfl) (by kernel_rfl) (by kernel_rfl) (fun _ _ _ h => h) (yieldsIf_mu (by rfl) _ rfl R hRl rfl) (by assumption) ?_
      simp only [Act.put, List.setIfInBounds_toArray, List.set_cons_zero, List.set_cons_succ]
      obtain ⟨hA5, hB5, hS5, hth⟩ := EE.put hRl
      refine wpAnyH_ready (rs := [5]) (by kernel_rfl) (by simp) (AllReadyH.cons (o := { dst := none, op := Op.store 85 (Operand.tmp 2) (Operand.tmp 28), type := 0, pos := "l05_scalar.go:122", after := #[{ on := 4, ground := Ground.data }, { on := 3, ground := Ground.chain }, { on := 0, ground := Ground.phase }, { on := 1, ground := Ground.phase }, { on := 2, ground := Ground.phase }, { on := 3, ground := Ground.phase }, { on := 4, ground := Ground.phase }], guard := none }) rfl (fun K hK => ?_) AllReadyH.nil)
      rw [if_pos (by rfl)]
      refine wp_store_mid _ _ _ rfl _ _ (I64 R).toArray rfl rfl hth hir (all_oneCell_toArray hone) ?_
      simp only [Act.put]
      refine hK.out _ _ hS5 (fun hHeld => ?_)
      clear hK K
      refine wpAnyH_done (by kernel_rfl) ?_ _
      go_wp2
      exact bodyPost_ret (results_cell_row rfl _ _ (w.heap.size + 1) 85 (I64 R).toArray (0, 0) _ rfl hA5 Tryd.underlying85 rfl hir) rfl ⟨rfl, hB5⟩
end Go.Proofs.YtihoaakbkffejaaDoor
namespace Go.Proofs.YtihoaakbkffejaaDoor
open Go.RowKit
set_option maxRecDepth 100000

/-- The multiplier, the result's cell, the limbs that are made, and the program's order. -/
structure M5 (w W : World) (n : List Int) (l : List Int) : Prop where
  fr : Below w.heap.size w W
  pa : Arr W w.heap.size 85 (I64 n)
  pr : Arr W (w.heap.size + 1) 85 (I64 Z16)
  pm : Arr W (w.heap.size + 2) 81 (I64 l)
  vr : Vr W 5 (I64 OL)
  g0 : 5 < w.heap.size
theorem M5.go {w A B : World} {n l : List Int} (h : M5 w A n l) (hb : Below A.heap.size A B) : M5 w B n l := ⟨h.fr.trans (hb.mono h.fr.size), h.pa.kept hb, h.pr.kept hb, h.pm.kept hb, h.vr.kept hb, h.g0⟩
theorem M5.new {w : World} (n : List Int) (h : Vr w 5 (I64 OL)) : M5 w (((w.alloc (.cells (I64 n).toArray 85)).alloc (.cells (I64 Z16).toArray 85)).alloc (.cells (I64 Z16).toArray 81)) n Z16 := by
  have hb : Below w.heap.size w (((w.alloc (.cells (I64 n).toArray 85)).alloc (.cells (I64 Z16).toArray 85)).alloc (.cells (I64 Z16).toArray 81)) := (((Below.refl _ _).alloc (Nat.le_refl _) _).alloc (by simp) _).alloc (by simp; omega) _
  refine ⟨hb, ((Arr.new w (I64 n) _).alloc _).alloc _, ?_, ?_, h.kept hb, h.lt⟩
  · have := (Arr.new (w.alloc (.cells (I64 n).toArray 85)) (I64 Z16) 85).alloc (.cells (I64 Z16).toArray 81)
    rw [World.size_alloc] at this
    exact this
  · have := Arr.new ((w.alloc (.cells (I64 n).toArray 85)).alloc (.cells (I64 Z16).toArray 85)) (I64 Z16) 81
    rw [World.size_alloc, World.size_alloc] at this
    exact this
theorem M5.row {w W : World} {n l : List Int} (h : M5 w W n l) (m : List Int) : M5 w (W.setRow (w.heap.size + 2) (I64 m).toArray) n m := by
  have hg := h.pa.lt
  have h0 := h.g0
  exact ⟨setRow_below h.fr _ _ (by omega), h.pa.rowOther _ _ (by omega), h.pr.rowOther _ _ (by omega), h.pm.row _, h.vr.rowOther _ (by omega), h0⟩
/-- Behind the copy. -/
def cpd (c : Int) (n : List Int) : List Int := c :: n.take 15
theorem cpd_len {c : Int} {n : List Int} (h : n.length = 16) : (cpd c n).length = 16 := by simp [cpd, h]
theorem cpd_mvd {c : Int} {n : List Int} (h : n.length = 16) : (I64 (cpd c n)).set 15 (.int .i64 (n.getD 14 0 + n.getD 15 0 * 65536)) = I64 (mvd c n) := by
  obtain ⟨a0, a1, a2, a3, a4, a5, a6, a7, a8, a9, a10, a11, a12, a13, a14, a15, rfl⟩ := list16 h
  rfl
theorem cpd_15 {c : Int} {n : List Int} (h : n.length = 16) : (cpd c n).getD 15 0 = n.getD 14 0 := by
  obtain ⟨a0, a1, a2, a3, a4, a5, a6, a7, a8, a9, a10, a11, a12, a13, a14, a15, rfl⟩ := list16 h
  rfl
/-- The copy itself. -/
theorem run_cpd {w W : World} {n : List Int} {c : Int} (E : M5 w W n (c :: List.replicate 15 0)) (hl : n.length = 16) (ty : TypeId) :
    (Builtin.copy_ #[37, 37] ty #[.slice (some ⟨w.heap.size + 2, 1, none⟩) 15 15, .slice (some ⟨w.heap.size, 0, none⟩) 15 16]).run Tryd.prog W = .ok (goInt 15) (W.setRow (w.heap.size + 2) (I64 (cpd c n)).toArray) := by
  have h := run_copy_row (P := Tryd.prog) W 37 37 ty 3 (w.heap.size + 2) 1 15 15 ⟨w.heap.size, 0, none⟩ 15 16 (I64 (c :: List.replicate 15 0)).toArray 81 (I64 (n.take 15)) Tryd.underlying37 (by kernel_rfl) E.pm (by simp [hl])
    (fun j v hv => by
      have hadd : (⟨w.heap.size, 0, none⟩ : Addr).add j = ⟨w.heap.size, j, none⟩ := by unfold Addr.add; split <;> simp_all
      rw [hadd, E.pa.cell j, ← hv]
      have hj : j < 15 := by have := (List.getElem?_eq_some_iff.1 hv).1; simp [hl] at this; omega
      simp [hj]) (by simp [hl]) (fun v hv => by obtain ⟨x, _, rfl⟩ := List.mem_map.1 hv; rfl)
  have e : ((I64 (c :: List.replicate 15 0)).toArray.toList.take 1 ++ I64 (n.take 15) ++ (I64 (c :: List.replicate 15 0)).toArray.toList.drop (1 + (I64 (n.take 15)).length)) = I64 (cpd c n) := by
    rw [List.drop_eq_nil_of_le (by simp [hl]), List.append_nil]
    simp [cpd, I64]
  rw [e] at h
  have e2 : (I64 (n.take 15)).length = 15 := by simp [hl]
  rw [e2] at h
  exact h

set_option maxHeartbeats 2000000 in
theorem implLonger (n : List Int) (c : Int) (w : World) (hn : scOk n = true) (hc : Cq c) (hV : Vr w 5 (I64 OL)) :
    Calls Tryd.prog 67 #[.agg (I64 n).toArray, .int .i64 c] w fun e w' => e = .returned (.agg (I64 (redO (c + 65536 * val n))).toArray) ∧ Below w.heap.size w w' := by
  have hl := ((scOk_iff n).1 hn).1
  have hlm := ((scOk_iff n).1 hn).2.1
  obtain ⟨m, hm⟩ : ∃ m, m = mvd c n := ⟨_, rfl⟩
  have hml : m.length = 16 := by rw [hm]; exact mvd_len hl
  have hmv : val m = c + 65536 * val n := by rw [hm]; exact mvd_val hl
  have hmq : Sq (val m) := by rw [hmv]; exact longer_sq hc hn
  have hmc : Cb m := by rw [hm]; exact cb_of (mvd_bd hc hn)
  obtain ⟨R, hR⟩ : ∃ R, R = redO (c + 65536 * val n) := ⟨_, rfl⟩
  have hRl : R.length = 16 := by rw [hR]; exact redO_len _
  obtain ⟨T, hT⟩ : ∃ T, T = crd m := ⟨_, rfl⟩
  have HCR : Hid (∀ Z, Calls Tryd.prog 78 #[.agg (I64 m).toArray] Z fun e w' => e = .returned (.agg (I64 T).toArray) ∧ Below Z.heap.size Z w') := by
    unfold Hid; intro Z; rw [hT]; exact implCarried m Z hml hmc
  have HOS : Hid (∀ Z, Vr Z 5 (I64 OL) → Calls Tryd.prog 79 #[.agg (I64 T).toArray] Z fun e w' => e = .returned (.agg (I64 R).toArray) ∧ Below Z.heap.size Z w') := by
    unfold Hid; intro Z hZ; rw [hT, hR, ← hmv]; exact implOrderSettled m Z hml hmq hZ
  rw [← hR]
  have h15 := sc_last hn
  have h14 := gD_lm hlm 14
  have hset := cpd_mvd (c := c) hl
  have h15c := cpd_15 (c := c) hl
  have hcl := cpd_len (c := c) hl
  rw [← hm] at hset
  obtain ⟨x, hx⟩ : ∃ x, x = n.getD 14 0 := ⟨_, rfl⟩
  obtain ⟨y, hy⟩ : ∃ y, y = n.getD 15 0 := ⟨_, rfl⟩
  rw [← hx] at h14 hset h15c
  rw [← hy] at h15 hset
  obtain ⟨W, hW⟩ : ∃ W, W = ((w.alloc (.cells (I64 n).toArray 85)).alloc (.cells #[.int .i64 0, .int .i64 0, .int .i64 0, .int .i64 0, .int .i64 0, .int .i64 0, .int .i64 0, .int .i64 0, .int .i64 0, .int .i64 0, .int .i64 0, .int .i64 0, .int .i64 0, .int .i64 0, .int .i64 0, .int .i64 0] 85)).alloc (.cells #[.int .i64 0, .int .i64 0, .int .i64 0, .int .i64 0, .int .i64 0, .int .i64 0, .int .i64 0, .int .i64 0, .int .i64 0, .int .i64 0, .int .i64 0, .int .i64 0, .int .i64 0, .int .i64 0, .int .i64 0, .int .i64 0] 81) := ⟨_, rfl⟩
  have E0 : M5 w W n Z16 := by rw [hW]; exact M5.new n hV
  have E1 : M5 w (W.setRow (w.heap.size + 2) (I64 (c :: List.replicate 15 0)).toArray) n (c :: List.replicate 15 0) := E0.row _
  have hz0 := E0.pm
  have hcpy : ∀ ty, _ := fun ty => run_cpd (E1.go (Below.refl _ _).drew) hl ty
  have E2 := (E1.go (Below.refl _ _).drew).row (cpd c n)
  obtain ⟨V, hVV⟩ : ∃ V, V = W.setRow (w.heap.size + 2) (I64 (c :: List.replicate 15 0)).toArray := ⟨_, rfl⟩
  rw [← hVV] at E2 hcpy
  obtain ⟨U, hU⟩ : ∃ U, U = V.drew.setRow (w.heap.size + 2) (I64 (cpd c n)).toArray := ⟨_, rfl⟩
  rw [← hU] at E2 hcpy
  have HVV : Hid _ := hVV
  have HW : Hid _ := hW
  rw [hW] at hz0
  have hw0 := hV.lt
  have cx : U.cell? ⟨w.heap.size + 2, 15, none⟩ = some (.int .i64 x) := by rw [E2.pm.i64 15 (by omega), h15c]
  have cy : U.cell? ⟨w.heap.size, 15, none⟩ = some (.int .i64 y) := by rw [E2.pa.i64 15 (by omega), hy]
  have hfz := E2.pm.frozen 15
  have sy : IntKind.i64.wrap (y * 65536) = y * 65536 := by rw [IntKind.wrap_i64]; omega
  have sxy : IntKind.i64.wrap (x + y * 65536) = x + y * 65536 := by rw [IntKind.wrap_i64]; omega
  have E3 : M5 w (U.setCell ⟨w.heap.size + 2, 15, none⟩ (.int .i64 (x + y * 65536))) n m := by
    have hs := E2.pm.set 15 (.int .i64 (x + y * 65536))
    rw [hset] at hs
    exact ⟨E2.fr.setCell (p := ⟨w.heap.size + 2, 15, none⟩) (by simp only; omega) _, E2.pa.other _ _ (by simp), E2.pr.other _ _ (by simp), hs, E2.vr.other _ _ (by have := E2.g0; simp only; omega), E2.g0⟩
  have hil : (Tryd.prog.info? 81).map (·.size) = some (I64 m).toArray.size := by simpa [hml] using infoL
  have hir : (Tryd.prog.info? 85).map (·.size) = some (I64 R).toArray.size := by simpa [hRl] using infoM
  obtain ⟨A, hA⟩ : ∃ A, A = (I64 n).toArray := ⟨_, rfl⟩
  rw [← hA] at hz0 ⊢
  replace HW : Hid (W = ((w.alloc (.cells A 85)).alloc (.cells #[.int .i64 0, .int .i64 0, .int .i64 0, .int .i64 0, .int .i64 0, .int .i64 0, .int .i64 0, .int .i64 0, .int .i64 0, .int .i64 0, .int .i64 0, .int .i64 0, .int .i64 0, .int .i64 0, .int .i64 0, .int .i64 0] 85)).alloc (.cells #[.int .i64 0, .int .i64 0, .int .i64 0, .int .i64 0, .int .i64 0, .int .i64 0, .int .i64 0, .int .i64 0, .int .i64 0, .int .i64 0, .int .i64 0, .int .i64 0, .int .i64 0, .int .i64 0, .int .i64 0, .int .i64 0] 81)) := by unfold Hid; rw [hA]; exact hW
  have hic : (Tryd.prog.info? 81).map (·.size) = some (I64 (c :: List.replicate 15 0)).toArray.size := by simpa using infoL
  clear hm hmv hmq hmc hR hT hn hlm hx hy hset h15c E0 E1 E2 hV hA hW hVV hU
  go_enter Tryd.func67, Tryd.ntmps67
  go_wp2_with (refine wpList_store_row rfl 81 _ _ rfl (w.heap.size + 2) (I64 (c :: List.replicate 15 0)).toArray rfl rfl 81 _ hz0 hic rfl (by simp [Value.oneCell']) ?_)
  rw [← HW.out, ← HVV.out]
  refine wp_region_held_drew (S := fun W => True) (by kernel_rfl) trivial (fun hHeld => ?_)
  refine wpAnyH_take (i := 0) (oi := { dst := some 8, op := Op.slice 81 (Operand.tmp 5) (some (Operand.const (Value.int IntKind.i64 1))) none none, type := 37, pos := "l05_scalar.go:110", after := #[], guard := none }) (v := .slice (some ⟨w.heap.size + 2, 1, none⟩) 15 15) rfl (by kernel_rfl) (by kernel_rfl) (by kernel_rfl) (fun _ _ _ h => h) (.inl ⟨by rfl, fun _ _ => by rfl⟩) (by assumption) ?_
  simp only [Act.put, List.setIfInBounds_toArray, List.set_cons_zero, List.set_cons_succ]
  refine wpAnyH_take (i := 1) (oi := { dst := some 9, op := Op.fieldAddr 85 (Operand.tmp 2) 0, type := 0, pos := "l05_scalar.go:110", after := #[], guard := none }) (v := .pointer (some ⟨w.heap.size, 0, none⟩)) rfl (by kernel_rfl) (by kernel_rfl) (by kernel_rfl) (fun _ _ _ h => h) (.inl ⟨by rfl, fun _ _ => by rfl⟩) (by assumption) ?_
  simp only [Act.put, List.setIfInBounds_toArray, List.set_cons_zero, List.set_cons_succ]
  refine wpAnyH_take (i := 2) (oi := { dst := some 10, op := Op.slice 81 (Operand.tmp 9) none (some (Operand.const (Value.int IntKind.i64 15))) none, type := 37, pos := "l05_scalar.go:110", after := #[{ on := 1, ground := Ground.data }], guard := none }) (v := .slice (some ⟨w.heap.size, 0, none⟩) 15 16) rfl (by kernel_rfl) (by kernel_rfl) (by kernel_rfl) (fun _ _ _ h => h) (.inl ⟨by rfl, fun _ _ => by rfl⟩) (by assumption) ?_
  simp only [Act.put, List.setIfInBounds_toArray, List.set_cons_zero, List.set_cons_succ]
  refine wpAnyH_ready (rs := [3]) (by kernel_rfl) (by simp) (AllReadyH.cons (o := { dst := some 11, op := Op.call { callee := Callee.builtin Builtin.copy, args := #[Operand.tmp 8, Operand.tmp 10], argTypes := #[37, 37] }, type := 3, pos := "l05_scalar.go:110", after := #[{ on := 0, ground := Ground.data }, { on := 2, ground := Ground.data }], guard := none }) rfl (fun K hK => ?_) AllReadyH.nil)
  rw [if_pos (by rfl)]
  refine Go.Proofs.wp_copy_runI _ _ _ _ _ rfl _ _ rfl rfl (hcpy _) ?_
  simp only [Act.put]
  refine hK.out _ _ trivial (fun hHeld => ?_)
  clear hK K hHeld
  refine wpAnyH_done (by kernel_rfl) ?_ _
  clear hcpy hz0 HW HVV
  obtain ⟨X, hX⟩ : ∃ X, X = U.setCell ⟨w.heap.size + 2, 15, none⟩ (.int .i64 (x + y * 65536)) := ⟨_, rfl⟩
  have HX : Hid _ := hX
  have hp3 := E3.pm
  rw [← hX] at E3
  clear hX
  go_wp2_with (refine wpList_load_row rfl 81 _ rfl (w.heap.size + 2) rfl 81 (I64 m).toArray (0, 0) _ hp3 Tryd.underlying81 rfl hil ?_)
  rw [← HX.out]
  clear HX hp3 cx cy hfz sy sxy
  refine (HCR.out _).mono ?_
  rintro e w1 ⟨rfl, hb1⟩
  replace E3 := E3.go hb1
  clear hb1
  go_wp2_with fail
  refine (HOS.out _ E3.vr).mono ?_
  rintro e w2 ⟨rfl, hb2⟩
  replace E3 := E3.go hb2
  clear hb2
  have h1 := E3.pr
  have h2 := E3.pr.row (I64 R)
  have HB : Hid _ := setRow_below E3.fr (w.heap.size + 1) (I64 R).toArray (by omega)
  clear E3
  go_wp2_with (refine wpList_store_row rfl 85 _ _ rfl (w.heap.size + 1) (I64 R).toArray rfl rfl 85 _ h1 hir (by simp [hRl]) (by simp [Value.oneCell']) ?_)
  exact bodyPost_ret (results_cell_row rfl _ _ (w.heap.size + 1) 85 (I64 R).toArray (0, 0) _ rfl h2 Tryd.underlying85 rfl hir) rfl ⟨rfl, HB.out⟩
end Go.Proofs.YtihoaakbkffejaaDoor

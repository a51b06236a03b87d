/-
  What is proved here: the contract of the specification's l4root: the even root of a number of; lengths and bounds of a root; whether bytes are those of a point, and which, as plain functions of the; plain mathematics of a point's bytes: a point comes back from its bytes.
-/
import Derived.Test.YtihoaakbkffejaaGreatDoorVVn
import Derived.Test.YtihoaakbkffejaaGreatDoorVFm
import Derived.Test.YtihoaakbkffejaaGreatDoorVJio
import Derived.Test.YtihoaakbkffejaaGreatDoorVQd
import Derived.Test.YtihoaakbkffejaaGreatDoorVJa
namespace Go.Proofs.YtihoaakbkffejaaGreatDoor
open Go.RowKit
set_option maxRecDepth 100000

structure RP (w W : World) (E : Nat) (a r : List Int) : Prop where
 e2 : E2 w W a
 pr : Arr W E 80 (I64 r)
 lt : w.heap.size + 1 < E
theorem RP.go {w A B : World} {E : Nat} {a r : List Int} (h : RP w A E a r) (hb : Below A.heap.size A B) : RP w B E a r := ⟨h.e2.go hb, h.pr.kept hb, h.lt⟩
theorem RP.put {w W : World} {E : Nat} {a r : List Int} (h : RP w W E a r) (s : List Int) (hl : (I64 r).length = (I64 s).length) : RP w (W.setCells E 0 (I64 s)) E a s := by
 have := h.lt
 exact ⟨⟨setCells_below (by omega) _ _ h.e2.fr, Arr.setCellsO (by omega) _ _ h.e2.pa, Arr.setCellsO (by omega) _ _ h.e2.pr⟩, Arr.setCells0 h.pr hl, h.lt⟩
theorem E2.fresh {w W : World} {a : List Int} (h : E2 w W a) : RP w (W.alloc (.cells (I64 Z16).toArray 80)) W.heap.size a Z16 := by
 have h1 := h.fr.size
 exact ⟨⟨h.fr.alloc h1 _, h.pa.alloc _, h.pr.alloc _⟩, Arr.new _ _ _, h.pr.lt⟩
theorem RP.both {w W : World} {E : Nat} {a r : List Int} (h : RP w W E a r) : W.rangeAt E 0 (I64 r) ∧ W.rangeAt w.heap.size 0 (I64 a) := ⟨arr_range h.pr, arr_range h.e2.pa⟩

def rt1 (a : List Int) : List Int := red (val a ^ eRt)
def sqF (r : List Int) : List Int := red (val r * val r)
def rt2 (a : List Int) : List Int := if sqF (rt1 a) = a then rt1 a else red (val (rt1 a) * val QL)
def rtOk (a : List Int) : Bool := decide (sqF (rt2 a) = a)
def rt3 (a : List Int) : List Int := if (rt2 a).getD 0 0 % 2 = 1 then tk16 PL (rt2 a) else rt2 a
def rtR (a : List Int) : List Int := if rtOk a = true then rt3 a else Z16

theorem rt2_len (a : List Int) : (rt2 a).length = 16 := by unfold rt2; split <;> exact red_len _
theorem rt2_lm (a : List Int) : Lm (rt2 a) := by unfold rt2; split <;> exact red_lm _
theorem one_i64 (l : List Int) : ∀ v ∈ I64 l, v.oneCell' = true := by
 intro v hv
 obtain ⟨x, _, rfl⟩ := List.mem_map.1 hv
 rfl

set_option maxHeartbeats 4000000 in
theorem specRoot16 (a : List Int) (w : World) (ha : a.length = 16) (la : Lm a) :
  Calls Tryz.prog 118 #[.agg (I64 a).toArray] w fun e w' => e = .returned (.tuple #[.agg (I64 (rtR a)).toArray, .bool (rtOk a)]) ∧ Below w.heap.size w w' := by
 obtain ⟨R, hR⟩ : ∃ R, R = rt1 a := ⟨_, rfl⟩
 have hRl : R.length = 16 := by rw [hR]; exact red_len _
 have hRm : Lm R := by rw [hR]; exact red_lm _
 have HPW : Hid (∀ Z, Calls Tryz.prog 138 #[.agg (I64 a).toArray, .agg (I64 E8).toArray] Z fun e w' => e = .returned (.agg (I64 R).toArray) ∧ Below Z.heap.size Z w') := by
  unfold Hid; intro Z
  have := specPow a E8 Z ha rfl la (by intro x hx; simp [E8] at hx; omega)
  rw [E8_val] at this
  rw [hR]
  exact this
 have HR : Hid _ := hR
 clear hR
 obtain ⟨A, hA⟩ : ∃ A, A = (I64 a).toArray := ⟨_, rfl⟩
 obtain ⟨W, hW⟩ : ∃ W, W = (w.alloc (.cells A 80)).alloc (.cells #[.int .i64 0, .int .i64 0, .int .i64 0, .int .i64 0, .int .i64 0, .int .i64 0, .int .i64 0, .int .i64 0, .int .i64 0, .int .i64 0, .int .i64 0, .int .i64 0, .int .i64 0, .int .i64 0, .int .i64 0, .int .i64 0] 80) := ⟨_, rfl⟩
 have EE : E2 w W.drew a := by
  have : E2 w W a := by rw [hW, hA]; exact E2.new w a
  exact this.go (Below.refl _ _).drew
 rw [← hA]
 have hone : ∀ v ∈ I64 R, v.oneCell' = true := by
  intro v hv
  obtain ⟨x, _, rfl⟩ := List.mem_map.1 hv
  rfl
 have hu : Tryz.prog.underlying 80 = some (.array 16 3) := Tryz.underlying80
 have hia : (Tryz.prog.info? 80).map (·.size) = some (I64 a).length := by simpa [ha] using infoE
 have hir : (Tryz.prog.info? 80).map (·.size) = some (I64 R).toArray.size := by simpa [hRl] using infoE
 have hirl : (Tryz.prog.info? 80).map (·.size) = some (I64 R).length := by simpa [hRl] using infoE
 clear hA
 go_enter Tryz.func118, Tryz.ntmps118
 go_wp2
 rw [← hW]
 clear hW
 rename_i K hKK
 have REST : ∀ (E : Nat) (V : World), RP w V E a R → K { tmps := #[.agg A, .pointer (some ⟨w.heap.size, 0, none⟩), .pointer (some ⟨w.heap.size + 1, 0, none⟩), .bool false, .pointer (some ⟨E, 0, none⟩), .agg (I64 a).toArray, .agg (I64 E8).toArray, .agg (I64 R).toArray, undef, undef, undef, undef, undef, undef, undef, undef, undef, undef, undef, undef, undef, undef, undef, undef, undef, undef, undef, undef, undef, undef], defers := [] } V := by
  intro E V RR
  obtain ⟨S, hS⟩ : ∃ S, S = sqF R := ⟨_, rfl⟩
  have hSl : S.length = 16 := by rw [hS]; exact red_len _
  have HSQ : Hid (∀ Z, Calls Tryz.prog 113 #[.agg (I64 R).toArray, .agg (I64 R).toArray] Z fun e w' => e = .returned (.agg (I64 S).toArray) ∧ Below Z.heap.size Z w') := by unfold Hid; intro Z; rw [hS]; exact specMul16 R R Z hRl hRl hRm hRm
  obtain ⟨s, hs⟩ : ∃ s, s = decide (S = a) := ⟨_, rfl⟩
  have hq : ∀ Z, (Op.equalIn 10000 80 (.agg (I64 S).toArray) (.agg (I64 a).toArray)).run Tryz.prog Z = .ok s Z := by intro Z; rw [hs]; exact run_eq16 S a Z hSl ha
  have H2 : Hid (rt2 a = if s = true then R else red (val R * val QL)) := by unfold Hid rt2; rw [← HR.out, ← hS, hs]; simp
  clear hS hs hSl
  replace RR : RP w V.drew E a R := RR.go (Below.refl _ _).drew
  clear EE
  go_wp2
  rename_i Ka hKa Kb hKb
  have REST4 : ∀ (u13 u14 u15 : Value) (V : World) (T : List Int), T = rt2 a → RP w V E a T → Ka { tmps := #[.agg A, .pointer (some ⟨w.heap.size, 0, none⟩), .pointer (some ⟨w.heap.size + 1, 0, none⟩), .bool false, .pointer (some ⟨E, 0, none⟩), .agg (I64 a).toArray, .agg (I64 E8).toArray, .agg (I64 R).toArray, .agg (I64 R).toArray, .agg (I64 R).toArray, .agg (I64 S).toArray, .agg (I64 a).toArray, .bool (!s), u13, u14, u15, undef, undef, undef, undef, undef, undef, undef, undef, undef, undef, undef, undef, undef, undef], defers := [] } V := by
   intro u13 u14 u15 V T hT RR
   clear hq HSQ H2
   have hTl : T.length = 16 := by rw [hT]; exact rt2_len a
   have hTm : Lm T := by rw [hT]; exact rt2_lm a
   obtain ⟨Sq, hSq⟩ : ∃ Sq, Sq = sqF T := ⟨_, rfl⟩
   have hSl : Sq.length = 16 := by rw [hSq]; exact red_len _
   have HSQ : Hid (∀ Z, Calls Tryz.prog 113 #[.agg (I64 T).toArray, .agg (I64 T).toArray] Z fun e w' => e = .returned (.agg (I64 Sq).toArray) ∧ Below Z.heap.size Z w') := by unfold Hid; intro Z; rw [hSq]; exact specMul16 T T Z hTl hTl hTm hTm
   obtain ⟨t, ht⟩ : ∃ t, t = rtOk a := ⟨_, rfl⟩
   have hq : ∀ Z, (Op.equalIn 10000 80 (.agg (I64 Sq).toArray) (.agg (I64 a).toArray)).run Tryz.prog Z = .ok t Z := by intro Z; rw [ht]; unfold rtOk; rw [← hT, ← hSq]; exact run_eq16 Sq a Z hSl ha
   have hitl : (Tryz.prog.info? 80).map (·.size) = some (I64 T).length := by simpa [hTl] using infoE
   have hiT : (Tryz.prog.info? 80).map (·.size) = some (I64 T).toArray.size := by simpa [hTl] using infoE
   have HT : Hid _ := hT
   have HOK : Hid _ := ht
   clear hSq hT ht hSl
   replace RR : RP w V.drew E a T := RR.go (Below.refl _ _).drew
   go_wp2
   refine wp_region_held_drew (S := fun W => W.rangeAt E 0 (I64 T) ∧ W.rangeAt w.heap.size 0 (I64 a)) (by kernel_rfl) RR.both (fun hHeld => ?_)
   refine wpAnyH_take (i := 0) (oi := { dst := some 16, op := .load 80 (.tmp 4), type := 80, pos := "l04_field.go:174", after := #[], guard := none }) (v := _) rfl (by kernel_rfl) (by kernel_rfl) (by kernel_rfl) (fun _ _ _ h => h) (yieldsIf_load_mid (by rfl) _ _ rfl _ _ rfl (I64 T) _ (fun _ h => h.1) hu rfl hitl) (by assumption) ?_
   simp only [Act.put, List.setIfInBounds_toArray, List.set_cons_zero, List.set_cons_succ]
   refine wpAnyH_take (i := 1) (oi := { dst := some 17, op := .load 80 (.tmp 4), type := 80, pos := "l04_field.go:174", after := #[], guard := none }) (v := _) rfl (by kernel_rfl) (by kernel_rfl) (by kernel_rfl) (fun _ _ _ h => h) (yieldsIf_load_mid (by rfl) _ _ rfl _ _ rfl (I64 T) _ (fun _ h => h.1) hu rfl hitl) (by assumption) ?_
   simp only [Act.put, List.setIfInBounds_toArray, List.set_cons_zero, List.set_cons_succ]
   refine wpAnyH_take (i := 3) (oi := { dst := some 19, op := .load 80 (.tmp 1), type := 80, pos := "l04_field.go:174", after := #[], guard := none }) (v := _) rfl (by kernel_rfl) (by kernel_rfl) (by kernel_rfl) (fun _ _ _ h => h) (yieldsIf_load_mid (by rfl) _ _ rfl _ _ rfl (I64 a) _ (fun _ h => h.2) hu rfl hia) (by assumption) ?_
   simp only [Act.put, List.setIfInBounds_toArray, List.set_cons_zero, List.set_cons_succ]
   refine wpAnyH_ready (rs := [2]) (by kernel_rfl) (by simp) (AllReadyH.cons (o := { dst := some 18, op := .call { callee := .value (.func 113), args := #[.tmp 16, .tmp 17], argTypes := #[80, 80] }, type := 80, pos := "l04_field.go:174", after := #[{ on := 0, ground := .data }, { on := 1, ground := .data }], guard := none }) rfl (fun K hK => ?_) AllReadyH.nil)
   go_simp
   refine (HSQ.out _).mono ?_
   rintro e w5 ⟨rfl, hb⟩
   replace RR := RR.go hb
   go_wp2_with fail
   refine hK.out _ _ RR.both (fun hHeld => ?_)
   clear hK K hb
   refine wpAnyH_ready (rs := [4]) (by kernel_rfl) (by simp) (AllReadyH.cons (o := { dst := some 20, op := .binOp .neq 80 (.tmp 18) (.tmp 19) 80, type := 4, pos := "l04_field.go:174", after := #[{ on := 2, ground := .data }, { on := 3, ground := .data }], guard := none }) rfl (fun K hK => ?_) AllReadyH.nil)
   go_simp
   refine hK.out _ _ RR.both (fun hHeld => ?_)
   clear hK K
   refine wpAnyH_done (by kernel_rfl) ?_ _
   clear hHeld
   clear hq HSQ
   cases t with
   | false =>
    have HRES : Hid (rtR a = Z16 ∧ rtOk a = false) := ⟨by unfold rtR; rw [← HOK.out]; rfl, HOK.out.symm⟩
    have hpz := RR.e2.pr
    have hp2 := hpz.row (I64 Z16)
    have hb2 := setRow_below RR.e2.fr (w.heap.size + 1) (I64 Z16).toArray (by omega)
    clear RR
    go_wp2_with (refine wpList_store_row rfl 80 _ _ rfl (w.heap.size + 1) (I64 Z16).toArray rfl rfl 80 _ hpz infoE rfl (by simp [Z16, Value.oneCell']) ?_)
    exact bodyPost_ret (results_row_tmp (v := .bool false) (cs := I64 Z16) rfl rfl rfl hp2 Tryz.underlying80 rfl infoE) rfl ⟨by rw [HRES.out.1, HRES.out.2], hb2⟩
   | true =>
    obtain ⟨x, hx⟩ : ∃ x, x = T.getD 0 0 := ⟨_, rfl⟩
    have hcx := RR.pr.i64 0 (by omega)
    rw [← hx] at hcx
    have hxb := gD_lm hTm 0
    rw [← hx] at hxb
    have hand : bits .and .i64 x 1 = x % 2 := i64_low1 hxb.1 (by omega)
    have HX : Hid _ := hx
    clear hx
    by_cases hodd : x % 2 = 1
    ·obtain ⟨U, hU⟩ : ∃ U, U = tk16 PL T := ⟨_, rfl⟩
     have hUl : U.length = 16 := by rw [hU, tk16_lim PL_len hTl]; exact lim_len _ _
     have HRES : Hid (rtR a = U ∧ rtOk a = true) := ⟨by unfold rtR rt3; rw [← HOK.out, ← HT.out, ← HX.out, if_pos hodd, hU]; rfl, HOK.out.symm⟩
     have HTK : Hid (∀ Z, Calls Tryz.prog 120 #[.agg (I64 PL).toArray, .agg (I64 T).toArray] Z fun e w' => e = .returned (.agg (I64 U).toArray) ∧ Below Z.heap.size Z w') := by unfold Hid; intro Z; rw [hU]; exact specTake PL T Z PL_len hTl PL_lm hTm
     have hiU : (Tryz.prog.info? 80).map (·.size) = some (I64 U).toArray.size := by simpa [hUl] using infoE
     have honeU : ∀ v ∈ I64 U, v.oneCell' = true := one_i64 U
     clear hU
     go_wp2
     clear hcx
     replace RR : RP w w5.drew E a T := RR.go (Below.refl _ _).drew
     refine wp_region_held_drew (S := fun _ => True) (by kernel_rfl) trivial (fun hHeld => ?_)
     refine wpAnyH_ready (rs := [0, 1]) (by kernel_rfl) (by simp) (AllReadyH.cons (o := { dst := some 26, op := .call { callee := .value (.func 112), args := #[], argTypes := #[] }, type := 80, pos := "l04_field.go:178", after := #[], guard := none }) rfl (fun K hK => ?_) (AllReadyH.cons (o := { dst := some 27, op := .load 80 (.tmp 4), type := 80, pos := "l04_field.go:178", after := #[], guard := none }) rfl (fun K hK => ?_) AllReadyH.nil))
     ·go_simp
      refine (specPrime _).mono ?_
      rintro e w6 ⟨rfl, hb⟩
      replace RR := RR.go hb
      go_wp2_with fail
      refine hK.out _ _ trivial (fun hHeld => ?_)
      clear hK K hb
      refine wpAnyH_ready (rs := [1]) (by kernel_rfl) (by simp) (AllReadyH.cons (o := { dst := some 27, op := .load 80 (.tmp 4), type := 80, pos := "l04_field.go:178", after := #[], guard := none }) rfl (fun K hK => ?_) AllReadyH.nil)
      rw [if_pos (by rfl)]
      refine wp_load_mid _ _ rfl _ _ rfl (I64 T) _ (arr_range RR.pr) hu rfl hitl ?_
      simp only [Act.put, List.setIfInBounds_toArray, List.set_cons_zero, List.set_cons_succ]
      refine hK.out _ _ trivial (fun hHeld => ?_)
      clear hK K
      refine wpAnyH_ready (rs := [2]) (by kernel_rfl) (by simp) (AllReadyH.cons (o := { dst := some 28, op := .call { callee := .value (.func 120), args := #[.tmp 26, .tmp 27], argTypes := #[80, 80] }, type := 80, pos := "l04_field.go:178", after := #[{ on := 0, ground := .data }, { on := 1, ground := .data }, { on := 0, ground := .chain }], guard := none }) rfl (fun K hK => ?_) AllReadyH.nil)
      go_simp
      refine (HTK.out _).mono ?_
      rintro e w7 ⟨rfl, hb⟩
      replace RR := RR.go hb
      go_wp2_with fail
      refine hK.out _ _ trivial (fun hHeld => ?_)
      clear hK K hb
      refine wpAnyH_ready (rs := [3]) (by kernel_rfl) (by simp) (AllReadyH.cons (o := { dst := none, op := .store 80 (.tmp 4) (.tmp 28), type := 0, pos := "l04_field.go:178", after := #[{ on := 2, ground := .data }, { on := 2, ground := .chain }, { on := 0, ground := .phase }, { on := 1, ground := .phase }, { on := 2, ground := .phase }], guard := none }) rfl (fun K hK => ?_) AllReadyH.nil)
      rw [if_pos (by rfl)]
      refine wp_store_mid _ _ _ rfl _ _ (I64 U).toArray rfl rfl (by simpa [hTl, hUl] using arr_there RR.pr) hiU (all_oneCell_toArray honeU) ?_
      replace RR := RR.put U (by simp [hTl, hUl])
      refine hK.out _ _ trivial (fun hHeld => ?_)
      clear hK K
      refine wpAnyH_done (by kernel_rfl) ?_ _
      clear hHeld
      have hpr := RR.pr
      have hpz := RR.e2.pr
      have hp2 := hpz.row (I64 U)
      have hb2 := setRow_below RR.e2.fr (w.heap.size + 1) (I64 U).toArray (by omega)
      clear RR
      go_wp2_with (first | (refine wpList_load_row rfl 80 _ rfl E rfl 80 (I64 U).toArray (0, 0) _ hpr Tryz.underlying80 rfl hiU ?_) | (refine wpList_store_row rfl 80 _ _ rfl (w.heap.size + 1) (I64 U).toArray rfl rfl 80 _ hpz hiU (by simp [hUl]) (by simp [Value.oneCell']) ?_))
      exact bodyPost_ret (results_row_tmp (v := .bool true) (cs := I64 U) rfl rfl rfl hp2 Tryz.underlying80 rfl (by simpa [hUl] using infoE)) rfl ⟨by rw [HRES.out.1, HRES.out.2], hb2⟩
     ·rw [if_pos (by rfl)]
      refine wp_load_mid _ _ rfl _ _ rfl (I64 T) _ (arr_range RR.pr) hu rfl hitl ?_
      simp only [Act.put, List.setIfInBounds_toArray, List.set_cons_zero, List.set_cons_succ]
      refine hK.out _ _ trivial (fun hHeld => ?_)
      clear hK K
      refine wpAnyH_ready (rs := [0]) (by kernel_rfl) (by simp) (AllReadyH.cons (o := { dst := some 26, op := .call { callee := .value (.func 112), args := #[], argTypes := #[] }, type := 80, pos := "l04_field.go:178", after := #[], guard := none }) rfl (fun K hK => ?_) AllReadyH.nil)
      go_simp
      refine (specPrime _).mono ?_
      rintro e w6 ⟨rfl, hb⟩
      replace RR := RR.go hb
      go_wp2_with fail
      refine hK.out _ _ trivial (fun hHeld => ?_)
      clear hK K hb
      refine wpAnyH_ready (rs := [2]) (by kernel_rfl) (by simp) (AllReadyH.cons (o := { dst := some 28, op := .call { callee := .value (.func 120), args := #[.tmp 26, .tmp 27], argTypes := #[80, 80] }, type := 80, pos := "l04_field.go:178", after := #[{ on := 0, ground := .data }, { on := 1, ground := .data }, { on := 0, ground := .chain }], guard := none }) rfl (fun K hK => ?_) AllReadyH.nil)
      go_simp
      refine (HTK.out _).mono ?_
      rintro e w7 ⟨rfl, hb⟩
      replace RR := RR.go hb
      go_wp2_with fail
      refine hK.out _ _ trivial (fun hHeld => ?_)
      clear hK K hb
      refine wpAnyH_ready (rs := [3]) (by kernel_rfl) (by simp) (AllReadyH.cons (o := { dst := none, op := .store 80 (.tmp 4) (.tmp 28), type := 0, pos := "l04_field.go:178", after := #[{ on := 2, ground := .data }, { on := 2, ground := .chain }, { on := 0, ground := .phase }, { on := 1, ground := .phase }, { on := 2, ground := .phase }], guard := none }) rfl (fun K hK => ?_) AllReadyH.nil)
      rw [if_pos (by rfl)]
      refine wp_store_mid _ _ _ rfl _ _ (I64 U).toArray rfl rfl (by simpa [hTl, hUl] using arr_there RR.pr) hiU (all_oneCell_toArray honeU) ?_
      replace RR := RR.put U (by simp [hTl, hUl])
      refine hK.out _ _ trivial (fun hHeld => ?_)
      clear hK K
      refine wpAnyH_done (by kernel_rfl) ?_ _
      clear hHeld
      have hpr := RR.pr
      have hpz := RR.e2.pr
      have hp2 := hpz.row (I64 U)
      have hb2 := setRow_below RR.e2.fr (w.heap.size + 1) (I64 U).toArray (by omega)
      clear RR
      go_wp2_with (first | (refine wpList_load_row rfl 80 _ rfl E rfl 80 (I64 U).toArray (0, 0) _ hpr Tryz.underlying80 rfl hiU ?_) | (refine wpList_store_row rfl 80 _ _ rfl (w.heap.size + 1) (I64 U).toArray rfl rfl 80 _ hpz hiU (by simp [hUl]) (by simp [Value.oneCell']) ?_))
      exact bodyPost_ret (results_row_tmp (v := .bool true) (cs := I64 U) rfl rfl rfl hp2 Tryz.underlying80 rfl (by simpa [hUl] using infoE)) rfl ⟨by rw [HRES.out.1, HRES.out.2], hb2⟩
    ·have HRES : Hid (rtR a = T ∧ rtOk a = true) := ⟨by unfold rtR rt3; rw [← HOK.out, ← HT.out, ← HX.out, if_neg hodd]; rfl, HOK.out.symm⟩
     have hpr := RR.pr
     have hpz := RR.e2.pr
     have hp2 := hpz.row (I64 T)
     have hb2 := setRow_below RR.e2.fr (w.heap.size + 1) (I64 T).toArray (by omega)
     clear RR
     go_wp2_with (first | (refine wpList_load_row rfl 80 _ rfl E rfl 80 (I64 T).toArray (0, 0) _ hpr Tryz.underlying80 rfl hiT ?_) | (refine wpList_store_row rfl 80 _ _ rfl (w.heap.size + 1) (I64 T).toArray rfl rfl 80 _ hpz hiT (by simp [hTl]) (by simp [Value.oneCell']) ?_))
     exact bodyPost_ret (results_row_tmp (v := .bool true) (cs := I64 T) rfl rfl rfl hp2 Tryz.underlying80 rfl (by simpa [hTl] using infoE)) rfl ⟨by rw [HRES.out.1, HRES.out.2], hb2⟩
  clear hKa
  refine wp_region_held_drew (S := fun W => W.rangeAt E 0 (I64 R) ∧ W.rangeAt w.heap.size 0 (I64 a)) (by kernel_rfl) RR.both (fun hHeld => ?_)
  refine wpAnyH_take (i := 0) (oi := { dst := some 8, op := .load 80 (.tmp 4), type := 80, pos := "l04_field.go:171", after := #[], guard := none }) (v := _) rfl (by kernel_rfl) (by kernel_rfl) (by kernel_rfl) (fun _ _ _ h => h) (yieldsIf_load_mid (by rfl) _ _ rfl _ _ rfl (I64 R) _ (fun _ h => h.1) hu rfl hirl) (by assumption) ?_
  simp only [Act.put, List.setIfInBounds_toArray, List.set_cons_zero, List.set_cons_succ]
  refine wpAnyH_take (i := 1) (oi := { dst := some 9, op := .load 80 (.tmp 4), type := 80, pos := "l04_field.go:171", after := #[], guard := none }) (v := _) rfl (by kernel_rfl) (by kernel_rfl) (by kernel_rfl) (fun _ _ _ h => h) (yieldsIf_load_mid (by rfl) _ _ rfl _ _ rfl (I64 R) _ (fun _ h => h.1) hu rfl hirl) (by assumption) ?_
  simp only [Act.put, List.setIfInBounds_toArray, List.set_cons_zero, List.set_cons_succ]
  refine wpAnyH_take (i := 3) (oi := { dst := some 11, op := .load 80 (.tmp 1), type := 80, pos := "l04_field.go:171", after := #[], guard := none }) (v := _) rfl (by kernel_rfl) (by kernel_rfl) (by kernel_rfl) (fun _ _ _ h => h) (yieldsIf_load_mid (by rfl) _ _ rfl _ _ rfl (I64 a) _ (fun _ h => h.2) hu rfl hia) (by assumption) ?_
  simp only [Act.put, List.setIfInBounds_toArray, List.set_cons_zero, List.set_cons_succ]
  refine wpAnyH_ready (rs := [2]) (by kernel_rfl) (by simp) (AllReadyH.cons (o := { dst := some 10, op := .call { callee := .value (.func 113), args := #[.tmp 8, .tmp 9], argTypes := #[80, 80] }, type := 80, pos := "l04_field.go:171", after := #[{ on := 0, ground := .data }, { on := 1, ground := .data }], guard := none }) rfl (fun K hK => ?_) AllReadyH.nil)
  go_simp
  refine (HSQ.out _).mono ?_
  rintro e w5 ⟨rfl, hb⟩
  replace RR := RR.go hb
  go_wp2_with fail
  refine hK.out _ _ RR.both (fun hHeld => ?_)
  clear hK K hb
  refine wpAnyH_ready (rs := [4]) (by kernel_rfl) (by simp) (AllReadyH.cons (o := { dst := some 12, op := .binOp .neq 80 (.tmp 10) (.tmp 11) 80, type := 4, pos := "l04_field.go:171", after := #[{ on := 2, ground := .data }, { on := 3, ground := .data }], guard := none }) rfl (fun K hK => ?_) AllReadyH.nil)
  go_simp
  refine hK.out _ _ RR.both (fun hHeld => ?_)
  clear hK K
  refine wpAnyH_done (by kernel_rfl) ?_ _
  clear hHeld
  clear hq HSQ
  cases s with
  | false =>
   obtain ⟨T, hT⟩ : ∃ T, T = red (val R * val QL) := ⟨_, rfl⟩
   have hT2 : T = rt2 a := by rw [hT]; exact H2.out.symm
   have hTl : T.length = 16 := by rw [hT]; exact red_len _
   have HQ : Hid (∀ Z, Calls Tryz.prog 113 #[.agg (I64 R).toArray, .agg (I64 QL).toArray] Z fun e w' => e = .returned (.agg (I64 T).toArray) ∧ Below Z.heap.size Z w') := by unfold Hid; intro Z; rw [hT]; exact specMul16 R QL Z hRl rfl hRm (by intro x hx; simp [QL] at hx; omega)
   have hiT : (Tryz.prog.info? 80).map (·.size) = some (I64 T).toArray.size := by simpa [hTl] using infoE
   have honeT : ∀ v ∈ I64 T, v.oneCell' = true := one_i64 T
   have HT2 : Hid _ := hT2
   clear hT hT2
   go_wp2
   replace RR : RP w w5.drew E a R := RR.go (Below.refl _ _).drew
   refine wp_region_held_drew (S := fun _ => True) (by kernel_rfl) trivial (fun hHeld => ?_)
   refine wpAnyH_ready (rs := [0, 1]) (by kernel_rfl) (by simp) (AllReadyH.cons (o := { dst := some 13, op := .load 80 (.tmp 4), type := 80, pos := "l04_field.go:172", after := #[], guard := none }) rfl (fun K hK => ?_) (AllReadyH.cons (o := { dst := some 14, op := .call { callee := .value (.func 140), args := #[], argTypes := #[] }, type := 80, pos := "l04_field.go:172", after := #[], guard := none }) rfl (fun K hK => ?_) AllReadyH.nil))
   ·rw [if_pos (by rfl)]
    refine wp_load_mid _ _ rfl _ _ rfl (I64 R) _ (arr_range RR.pr) hu rfl hirl ?_
    simp only [Act.put, List.setIfInBounds_toArray, List.set_cons_zero, List.set_cons_succ]
    refine hK.out _ _ trivial (fun hHeld => ?_)
    clear hK K
    refine wpAnyH_ready (rs := [1]) (by kernel_rfl) (by simp) (AllReadyH.cons (o := { dst := some 14, op := .call { callee := .value (.func 140), args := #[], argTypes := #[] }, type := 80, pos := "l04_field.go:172", after := #[], guard := none }) rfl (fun K hK => ?_) AllReadyH.nil)
    go_simp
    refine (specFourth _).mono ?_
    rintro e w6 ⟨rfl, hb⟩
    replace RR := RR.go hb
    go_wp2_with fail
    refine hK.out _ _ trivial (fun hHeld => ?_)
    clear hK K hb
    refine wpAnyH_ready (rs := [2]) (by kernel_rfl) (by simp) (AllReadyH.cons (o := { dst := some 15, op := .call { callee := .value (.func 113), args := #[.tmp 13, .tmp 14], argTypes := #[80, 80] }, type := 80, pos := "l04_field.go:172", after := #[{ on := 0, ground := .data }, { on := 1, ground := .data }, { on := 1, ground := .chain }], guard := none }) rfl (fun K hK => ?_) AllReadyH.nil)
    go_simp
    refine (HQ.out _).mono ?_
    rintro e w7 ⟨rfl, hb⟩
    replace RR := RR.go hb
    go_wp2_with fail
    refine hK.out _ _ trivial (fun hHeld => ?_)
    clear hK K hb
    refine wpAnyH_ready (rs := [3]) (by kernel_rfl) (by simp) (AllReadyH.cons (o := { dst := none, op := .store 80 (.tmp 4) (.tmp 15), type := 0, pos := "l04_field.go:172", after := #[{ on := 2, ground := .data }, { on := 2, ground := .chain }, { on := 0, ground := .phase }, { on := 1, ground := .phase }, { on := 2, ground := .phase }], guard := none }) rfl (fun K hK => ?_) AllReadyH.nil)
    rw [if_pos (by rfl)]
    refine wp_store_mid _ _ _ rfl _ _ (I64 T).toArray rfl rfl (by simpa [hRl, hTl] using arr_there RR.pr) hiT (all_oneCell_toArray honeT) ?_
    replace RR := RR.put T (by simp [hRl, hTl])
    refine hK.out _ _ trivial (fun hHeld => ?_)
    clear hK K
    refine wpAnyH_done (by kernel_rfl) ?_ _
    clear hHeld
    exact REST4 _ _ _ _ _ HT2.out RR
   ·go_simp
    refine (specFourth _).mono ?_
    rintro e w6 ⟨rfl, hb⟩
    replace RR := RR.go hb
    go_wp2_with fail
    refine hK.out _ _ trivial (fun hHeld => ?_)
    clear hK K hb
    refine wpAnyH_ready (rs := [0]) (by kernel_rfl) (by simp) (AllReadyH.cons (o := { dst := some 13, op := .load 80 (.tmp 4), type := 80, pos := "l04_field.go:172", after := #[], guard := none }) rfl (fun K hK => ?_) AllReadyH.nil)
    rw [if_pos (by rfl)]
    refine wp_load_mid _ _ rfl _ _ rfl (I64 R) _ (arr_range RR.pr) hu rfl hirl ?_
    simp only [Act.put, List.setIfInBounds_toArray, List.set_cons_zero, List.set_cons_succ]
    refine hK.out _ _ trivial (fun hHeld => ?_)
    clear hK K
    refine wpAnyH_ready (rs := [2]) (by kernel_rfl) (by simp) (AllReadyH.cons (o := { dst := some 15, op := .call { callee := .value (.func 113), args := #[.tmp 13, .tmp 14], argTypes := #[80, 80] }, type := 80, pos := "l04_field.go:172", after := #[{ on := 0, ground := .data }, { on := 1, ground := .data }, { on := 1, ground := .chain }], guard := none }) rfl (fun K hK => ?_) AllReadyH.nil)
    go_simp
    refine (HQ.out _).mono ?_
    rintro e w7 ⟨rfl, hb⟩
    replace RR := RR.go hb
    go_wp2_with fail
    refine hK.out _ _ trivial (fun hHeld => ?_)
    clear hK K hb
    refine wpAnyH_ready (rs := [3]) (by kernel_rfl) (by simp) (AllReadyH.cons (o := { dst := none, op := .store 80 (.tmp 4) (.tmp 15), type := 0, pos := "l04_field.go:172", after := #[{ on := 2, ground := .data }, { on := 2, ground := .chain }, { on := 0, ground := .phase }, { on := 1, ground := .phase }, { on := 2, ground := .phase }], guard := none }) rfl (fun K hK => ?_) AllReadyH.nil)
    rw [if_pos (by rfl)]
    refine wp_store_mid _ _ _ rfl _ _ (I64 T).toArray rfl rfl (by simpa [hRl, hTl] using arr_there RR.pr) hiT (all_oneCell_toArray honeT) ?_
    replace RR := RR.put T (by simp [hRl, hTl])
    refine hK.out _ _ trivial (fun hHeld => ?_)
    clear hK K
    refine wpAnyH_done (by kernel_rfl) ?_ _
    clear hHeld
    exact REST4 _ _ _ _ _ HT2.out RR
  | true =>
   exact hKb _ _ (by go_wp2; exact REST4 _ _ _ _ _ H2.out.symm RR)
 refine wp_region_held_drew (S := fun W => W.rangeAt w.heap.size 0 (I64 a)) (by kernel_rfl) EE.one (fun hHeld => ?_)
 refine wpAnyH_take (i := 0) (oi := { dst := some 5, op := .load 80 (.tmp 1), type := 80, pos := "l04_field.go:170", after := #[], guard := none }) (v := _) rfl (by kernel_rfl) (by kernel_rfl) (by kernel_rfl) (fun _ _ _ h => h) (yieldsIf_load_mid (by rfl) _ _ rfl _ _ rfl (I64 a) _ (fun _ h => h) hu rfl hia) (by assumption) ?_
 simp only [Act.put, List.setIfInBounds_toArray, List.set_cons_zero, List.set_cons_succ]
 refine wpAnyH_ready (rs := [1, 3]) (by kernel_rfl) (by simp) (AllReadyH.cons (o := { dst := some 6, op := .call { callee := .value (.func 139), args := #[], argTypes := #[] }, type := 80, pos := "l04_field.go:170", after := #[], guard := none }) rfl (fun K hK => ?_) (AllReadyH.cons (o := { dst := some 4, op := .alloc 80, type := 0, pos := "l04_field.go:170", after := #[], guard := none }) rfl (fun K hK => ?_) AllReadyH.nil))
 ·go_simp
  refine (specEighth _).mono ?_
  rintro e w1 ⟨rfl, hb⟩
  replace EE := EE.go hb
  go_wp2_with fail
  refine hK.out _ _ EE.one (fun hHeld => ?_)
  clear hK K hb
  refine wpAnyH_ready (rs := [2, 3]) (by kernel_rfl) (by simp) (AllReadyH.cons (o := { dst := some 7, op := .call { callee := .value (.func 138), args := #[.tmp 5, .tmp 6], argTypes := #[80, 80] }, type := 80, pos := "l04_field.go:170", after := #[{ on := 0, ground := .data }, { on := 1, ground := .data }, { on := 1, ground := .chain }], guard := none }) rfl (fun K hK => ?_) (AllReadyH.cons (o := { dst := some 4, op := .alloc 80, type := 0, pos := "l04_field.go:170", after := #[], guard := none }) rfl (fun K hK => ?_) AllReadyH.nil))
  ·go_simp
   refine (HPW.out _).mono ?_
   rintro e w2 ⟨rfl, hb⟩
   replace EE := EE.go hb
   go_wp2_with fail
   refine hK.out _ _ EE.one (fun hHeld => ?_)
   clear hK K hb
   refine wpAnyH_ready (rs := [3]) (by kernel_rfl) (by simp) (AllReadyH.cons (o := { dst := some 4, op := .alloc 80, type := 0, pos := "l04_field.go:170", after := #[], guard := none }) rfl (fun K hK => ?_) AllReadyH.nil)
   go_simp
   have RR := EE.fresh
   refine hK.out _ _ RR.e2.one (fun hHeld => ?_)
   clear hK K
   refine wpAnyH_ready (rs := [4]) (by kernel_rfl) (by simp) (AllReadyH.cons (o := { dst := none, op := .store 80 (.tmp 4) (.tmp 7), type := 0, pos := "l04_field.go:170", after := #[{ on := 3, ground := .data }, { on := 2, ground := .data }, { on := 2, ground := .chain }, { on := 0, ground := .phase }, { on := 1, ground := .phase }, { on := 2, ground := .phase }, { on := 3, ground := .phase }], guard := none }) rfl (fun K hK => ?_) AllReadyH.nil)
   have hth : (w2.alloc (.cells (I64 Z16).toArray 80)).there w2.heap.size 0 (I64 R).toArray.size := by simpa [hRl] using arr_there RR.pr
   rw [if_pos (by rfl)]
   refine wp_store_mid _ _ _ rfl _ _ (I64 R).toArray rfl rfl hth hir (all_oneCell_toArray hone) ?_
   replace RR := RR.put R (by simp [hRl])
   refine hK.out _ _ RR.e2.one (fun hHeld => ?_)
   clear hK K hth
   refine wpAnyH_done (by kernel_rfl) ?_ _
   exact REST _ _ RR
  ·go_simp
   have RR := EE.fresh
   refine hK.out _ _ RR.e2.one (fun hHeld => ?_)
   clear hK K
   refine wpAnyH_ready (rs := [2]) (by kernel_rfl) (by simp) (AllReadyH.cons (o := { dst := some 7, op := .call { callee := .value (.func 138), args := #[.tmp 5, .tmp 6], argTypes := #[80, 80] }, type := 80, pos := "l04_field.go:170", after := #[{ on := 0, ground := .data }, { on := 1, ground := .data }, { on := 1, ground := .chain }], guard := none }) rfl (fun K hK => ?_) AllReadyH.nil)
   go_simp
   refine (HPW.out _).mono ?_
   rintro e w2 ⟨rfl, hb⟩
   replace RR := RR.go hb
   go_wp2_with fail
   refine hK.out _ _ RR.e2.one (fun hHeld => ?_)
   clear hK K hb
   refine wpAnyH_ready (rs := [4]) (by kernel_rfl) (by simp) (AllReadyH.cons (o := { dst := none, op := .store 80 (.tmp 4) (.tmp 7), type := 0, pos := "l04_field.go:170", after := #[{ on := 3, ground := .data }, { on := 2, ground := .data }, { on := 2, ground := .chain }, { on := 0, ground := .phase }, { on := 1, ground := .phase }, { on := 2, ground := .phase }, { on := 3, ground := .phase }], guard := none }) rfl (fun K hK => ?_) AllReadyH.nil)
   have hth : w2.there w1.heap.size 0 (I64 R).toArray.size := by simpa [hRl] using arr_there RR.pr
   rw [if_pos (by rfl)]
   refine wp_store_mid _ _ _ rfl _ _ (I64 R).toArray rfl rfl hth hir (all_oneCell_toArray hone) ?_
   replace RR := RR.put R (by simp [hRl])
   refine hK.out _ _ RR.e2.one (fun hHeld => ?_)
   clear hK K hth
   refine wpAnyH_done (by kernel_rfl) ?_ _
   exact REST _ _ RR
 ·go_simp
  have RR := EE.fresh
  refine hK.out _ _ RR.e2.one (fun hHeld => ?_)
  clear hK K
  refine wpAnyH_ready (rs := [1]) (by kernel_rfl) (by simp) (AllReadyH.cons (o := { dst := some 6, op := .call { callee := .value (.func 139), args := #[], argTypes := #[] }, type := 80, pos := "l04_field.go:170", after := #[], guard := none }) rfl (fun K hK => ?_) AllReadyH.nil)
  go_simp
  refine (specEighth _).mono ?_
  rintro e w1 ⟨rfl, hb⟩
  replace RR := RR.go hb
  go_wp2_with fail
  refine hK.out _ _ RR.e2.one (fun hHeld => ?_)
  clear hK K hb
  refine wpAnyH_ready (rs := [2]) (by kernel_rfl) (by simp) (AllReadyH.cons (o := { dst := some 7, op := .call { callee := .value (.func 138), args := #[.tmp 5, .tmp 6], argTypes := #[80, 80] }, type := 80, pos := "l04_field.go:170", after := #[{ on := 0, ground := .data }, { on := 1, ground := .data }, { on := 1, ground := .chain }], guard := none }) rfl (fun K hK => ?_) AllReadyH.nil)
  go_simp
  refine (HPW.out _).mono ?_
  rintro e w2 ⟨rfl, hb⟩
  replace RR := RR.go hb
  go_wp2_with fail
  refine hK.out _ _ RR.e2.one (fun hHeld => ?_)
  clear hK K hb
  refine wpAnyH_ready (rs := [4]) (by kernel_rfl) (by simp) (AllReadyH.cons (o := { dst := none, op := .store 80 (.tmp 4) (.tmp 7), type := 0, pos := "l04_field.go:170", after := #[{ on := 3, ground := .data }, { on := 2, ground := .data }, { on := 2, ground := .chain }, { on := 0, ground := .phase }, { on := 1, ground := .phase }, { on := 2, ground := .phase }, { on := 3, ground := .phase }], guard := none }) rfl (fun K hK => ?_) AllReadyH.nil)
  have hth : w2.there W.heap.size 0 (I64 R).toArray.size := by simpa [hRl] using arr_there RR.pr
  rw [if_pos (by rfl)]
  refine wp_store_mid _ _ _ rfl _ _ (I64 R).toArray rfl rfl hth hir (all_oneCell_toArray hone) ?_
  replace RR := RR.put R (by simp [hRl])
  refine hK.out _ _ RR.e2.one (fun hHeld => ?_)
  clear hK K hth
  refine wpAnyH_done (by kernel_rfl) ?_ _
  exact REST _ _ RR
theorem rt3_ok (a : List Int) : (rt3 a).length = 16 ∧ Lm (rt3 a) := by
 unfold rt3
 split
 ·rw [tk16_lim PL_len (rt2_len a)]; exact ⟨lim_len _ _, lim_lm _ _⟩
 ·exact ⟨rt2_len a, rt2_lm a⟩
theorem rtR_len (a : List Int) : (rtR a).length = 16 := by
 unfold rtR
 split
 ·exact (rt3_ok a).1
 ·rfl
set_option maxHeartbeats 4000000

def lowB (bs : List Int) : List Int := bs.set 31 (bs.getD 31 0 % 128)
def yR (bs : List Int) : List Int := rdL (lowB bs)
def odd6 (bs : List Int) : Int := bs.getD 31 0 / 128
def ovr (y : List Int) : List Int := red (val (red (val y * val y)) - val (lim 16 1))
def und (y : List Int) : List Int := red (val (red (val DL * val (red (val y * val y)))) + val (lim 16 1))
def sqx (y : List Int) : List Int := red (val (ovr y) * val (invF (und y)))
def xR (y : List Int) (o : Int) : List Int := if o = 1 then tk16 PL (rt3 (sqx y)) else rt3 (sqx y)
def okR (y : List Int) (o : Int) : Bool := rtOk (sqx y) && !(decide (rt3 (sqx y) = Z16) && decide (o = 1))
def rdOk6 (bs : List Int) : Bool := decide (bs.length = 32) && decide (val (yR bs) < P25519) && okR (yR bs) (odd6 bs)
def rdX6 (bs : List Int) : List Int := if rdOk6 bs = true then xR (yR bs) (odd6 bs) else []
def rdY6 (bs : List Int) : List Int := if rdOk6 bs = true then yR bs else []
theorem lowB_byte {bs : List Int} (h : ∀ x ∈ bs, 0 ≤ x ∧ x < 256) : ∀ x ∈ lowB bs, 0 ≤ x ∧ x < 256 := by
 intro x hx
 rcases List.mem_or_eq_of_mem_set hx with h1 | rfl
 ·exact h x h1
 ·have := gD_u8 h 31
  omega
theorem yR_len (bs : List Int) : (yR bs).length = 16 := rdL_len _
theorem yR_lm {bs : List Int} (h : ∀ x ∈ bs, 0 ≤ x ∧ x < 256) : Lm (yR bs) := rdL_lm (lowB_byte h)
theorem yR_ok {bs : List Int} (h : ∀ x ∈ bs, 0 ≤ x ∧ x < 256) (hp : val (yR bs) < P25519) : feOk (yR bs) = true := (feOk_iff _).2 ⟨yR_len bs, yR_lm h, hp⟩
theorem odd6_two {bs : List Int} (h : ∀ x ∈ bs, 0 ≤ x ∧ x < 256) : odd6 bs = 0 ∨ odd6 bs = 1 := by
 have := gD_u8 h 31
 unfold odd6
 omega
theorem low_val {l : List Int} (h : l.length = 16) : val l % 2 = l.getD 0 0 % 2 := by
 match l, h with
 | x :: t, _ =>
  show (x + 65536 * val t) % 2 = x % 2
  omega
theorem PL_odd : P25519 % 2 = 1 := by decide
theorem rt2_ok6 (a : List Int) : feOk (rt2 a) = true := by
 rw [feOk_iff]
 refine ⟨rt2_len a, rt2_lm a, ?_⟩
 unfold rt2
 split
 ·unfold rt1; rw [val_red]; exact (red_lt _).2
 ·rw [val_red]; exact (red_lt _).2
theorem rt3_fe (a : List Int) : feOk (rt3 a) = true ∧ val (rt3 a) % 2 = 0 := by
 obtain ⟨h1, h2, h3⟩ := (feOk_iff _).1 (rt2_ok6 a)
 have h0 := val_nonneg (fun x hx => (h2 x hx).1)
 have hl := low_val h1
 have hp := PL_odd
 unfold rt3
 split
 ·rename_i ho
  have hv : val (tk16 PL (rt2 a)) = P25519 - val (rt2 a) := by
   rw [tk16_lim PL_len h1, PL_val, val_lim, p256]
   exact Int.emod_eq_of_lt (by omega) (by unfold P25519; omega)
  refine ⟨(feOk_iff _).2 ⟨by rw [tk16_lim PL_len h1]; exact lim_len _ _, by rw [tk16_lim PL_len h1]; exact lim_lm _ _, by rw [hv]; omega⟩, by rw [hv]; omega⟩
 ·rename_i ho
  exact ⟨rt2_ok6 a, by omega⟩
theorem z16_of {l : List Int} (h : feOk l = true) : l = Z16 ↔ val l = 0 := by
 constructor
 ·rintro rfl; decide
 ·intro hv
  obtain ⟨h1, h2, _⟩ := (feOk_iff l).1 h
  have e := lim_val l h2
  rw [h1, hv] at e
  rw [← e]; decide
theorem xR_ok {y : List Int} {o : Int} (h : okR y o = true) : feOk (xR y o) = true ∧ (xR y o = if o = 1 then red (val (lim 16 0) - val (rt3 (sqx y))) else rt3 (sqx y)) ∧ (o = 0 ∨ o = 1 → val (xR y o) % 2 = o) := by
 obtain ⟨h1, h2⟩ := rt3_fe (sqx y)
 obtain ⟨l1, l2, l3⟩ := (feOk_iff _).1 h1
 have h0 := val_nonneg (fun x hx => (l2 x hx).1)
 have hp := PL_odd
 unfold xR
 by_cases ho : o = 1
 ·rw [if_pos ho, if_pos ho]
  have hz : val (rt3 (sqx y)) ≠ 0 := by
   intro e
   have := (z16_of h1).2 e
   unfold okR at h
   simp [this, ho] at h
  have hv : val (tk16 PL (rt3 (sqx y))) = P25519 - val (rt3 (sqx y)) := by
   rw [tk16_lim PL_len l1, PL_val, val_lim, p256]
   exact Int.emod_eq_of_lt (by omega) (by unfold P25519; omega)
  have hz0 : val (lim 16 0) = 0 := by decide
  refine ⟨(feOk_iff _).2 ⟨by rw [tk16_lim PL_len l1]; exact lim_len _ _, by rw [tk16_lim PL_len l1]; exact lim_lm _ _, by rw [hv]; omega⟩, ?_, fun _ => by rw [hv]; omega⟩
  rw [tk16_lim PL_len l1, PL_val]
  unfold red
  congr 1
  rw [hz0]
  have e : (0 - val (rt3 (sqx y))) % P25519 = (P25519 - val (rt3 (sqx y))) % P25519 := by
   have := Int.add_emod_right (0 - val (rt3 (sqx y))) P25519
   rw [← this]
   congr 1
   omega
  rw [e]
  exact (Int.emod_eq_of_lt (by omega) (by omega)).symm
 ·rw [if_neg ho, if_neg ho]
  exact ⟨h1, rfl, fun h => by omega⟩
theorem rdOk6_parts {bs : List Int} (h : rdOk6 bs = true) : bs.length = 32 ∧ val (yR bs) < P25519 ∧ okR (yR bs) (odd6 bs) = true := by
 unfold rdOk6 at h
 simp only [Bool.and_eq_true, decide_eq_true_eq] at h
 exact ⟨h.1.1, h.1.2, h.2⟩
set_option maxHeartbeats 4000000
set_option linter.unusedSectionVars false

section
variable [NeZero pN]
theorem neg_sq (a : KF) : (0 - a) * (0 - a) = a * a := by grind
theorem rt3_fl {a : List Int} (h : rtOk a = true) : fl (rt3 a) * fl (rt3 a) = fl a := by
 have hsq : red (val (rt2 a) * val (rt2 a)) = a := by
  unfold rtOk at h
  exact of_decide_eq_true h
 have h2 : fl (rt2 a) * fl (rt2 a) = fl a := by rw [← fl_mul, hsq]
 obtain ⟨l2, m2, v2⟩ := (feOk_iff _).1 (rt2_ok6 a)
 have n2 := val_nonneg (fun x hx => (m2 x hx).1)
 unfold rt3
 split
 ·have e : fl (tk16 PL (rt2 a)) = 0 - fl (rt2 a) := by
   have hv : val (tk16 PL (rt2 a)) = P25519 - val (rt2 a) := by
    rw [tk16_lim PL_len l2, PL_val, val_lim, p256]
    exact Int.emod_eq_of_lt (by omega) (by unfold P25519; omega)
   unfold fl
   rw [hv, fe_sub]
   have : fe P25519 = 0 := fe_nz.2 (Int.emod_self)
   rw [this]
  rw [e, neg_sq, h2]
 ·exact h2
theorem xR_fl {y : List Int} {o : Int} (h : okR y o = true) : fl (xR y o) * fl (xR y o) = fl (sqx y) := by
 have hk : rtOk (sqx y) = true := by unfold okR at h; simp only [Bool.and_eq_true] at h; exact h.1
 have e := (xR_ok h).2.1
 rw [e]
 split
 ·rw [fl_sub, fl_zero, neg_sq]; exact rt3_fl hk
 ·exact rt3_fl hk
theorem und_ne (y : KF) : dK * (y * y) + 1 ≠ 0 := by
 intro h0
 have hi := im_K
 have h1 : 1 + dK * (y * y) = 0 := by grind
 have : iK * iK = dK * (y * y) := by grind
 have hy := nsq_K _ _ this
 exact one_K (one_nought dK y h1 hy)
theorem sqx_fl (y : List Int) : fl (sqx y) = (fl y * fl y - 1) * ivK (dK * (fl y * fl y) + 1) := by
 unfold sqx ovr und
 rw [fl_mul, fl_sub, fl_mul, fl_inv, fl_add, fl_mul, fl_mul, fl_one, fl_DL]
theorem on_alg {x y d u : KF} (hu : (d * (y * y) + 1) * u = 1) : y * y - x * x = 1 + d * (x * x) * (y * y) ↔ x * x = (y * y - 1) * u := by
 constructor
 ·intro h
  have h2 : x * x * (d * (y * y) + 1) = y * y - 1 := by grind
  have h3 : x * x * ((d * (y * y) + 1) * u) = (y * y - 1) * u := by rw [← h2]; grind
  rw [hu] at h3
  grind
 ·intro h
  have h2 : x * x * (d * (y * y) + 1) = (y * y - 1) * (u * (d * (y * y) + 1)) := by rw [h]; grind
  have h3 : u * (d * (y * y) + 1) = 1 := by grind
  rw [h3] at h2
  grind
theorem on_sqx (x y : List Int) : On dK (fl x, fl y) ↔ fl x * fl x = fl (sqx y) := by
 rw [sqx_fl]
 exact on_alg (ivK_inv _ (und_ne _))
theorem pt_rd {zs : List Int} (hb : ∀ x ∈ zs, 0 ≤ x ∧ x < 256) (h : rdOk6 zs = true) : ptOk (rdX6 zs) (rdY6 zs) = true ∧ ptBt (rdX6 zs) (rdY6 zs) = zs ∧ (rdX6 zs).length = 16 ∧ (rdY6 zs).length = 16 := by
 obtain ⟨h1, h2, h3⟩ := rdOk6_parts h
 have hX : rdX6 zs = xR (yR zs) (odd6 zs) := by unfold rdX6; rw [if_pos h]
 have hY : rdY6 zs = yR zs := by unfold rdY6; rw [if_pos h]
 obtain ⟨kx, _, kp⟩ := xR_ok h3
 have ky := yR_ok hb h2
 have hpar := kp (odd6_two hb)
 rw [hX, hY]
 refine ⟨(ptOk_iff _ _).2 ⟨kx, ky, (onB_iff _ _).2 ((on_sqx _ _).2 (xR_fl h3))⟩, ?_, feOk_len kx, feOk_len ky⟩
 have hlen : (lowB zs).length = 32 := by unfold lowB; simp [h1]
 have e : btL (yR zs) = lowB zs := bt_rd hlen (lowB_byte hb)
 have h31 := gD_u8 hb 31
 have hlp := low_val (feOk_len kx)
 have e31 : (lowB zs).getD 31 0 = zs.getD 31 0 % 128 := by unfold lowB; simp [List.getD, h1]
 unfold ptBt
 rw [e, e31, ← hlp, hpar]
 unfold odd6 lowB
 rw [List.set_set]
 have e2 : zs.getD 31 0 % 128 + zs.getD 31 0 / 128 * 128 = zs.getD 31 0 := by omega
 rw [e2]
 have hlt : 31 < zs.length := by omega
 rw [List.getD, List.getElem?_eq_getElem hlt]
 exact List.set_getElem_self hlt
end
end Go.Proofs.YtihoaakbkffejaaGreatDoor

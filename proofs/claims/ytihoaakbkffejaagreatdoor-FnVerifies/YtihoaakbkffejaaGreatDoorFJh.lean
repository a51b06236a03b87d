/-
  What is proved here: contracts of the program's methods fieldInverse and fieldRoot, and of fieldRootExponent; where the program's variables hold the prime and a root of the opposite of one.
-/
import Derived.Test.YtihoaakbkffejaaGreatDoorFJg
import Derived.Test.YtihoaakbkffejaaGreatDoorFVk
namespace Go.Proofs.YtihoaakbkffejaaGreatDoor
open Go.RowKit
set_option maxRecDepth 100000
abbrev qJh0 : Oper := { dst := none, op := Op.store 65 (Operand.tmp 4) (Operand.tmp 7), type := 0, pos := "l04_field.go:265", after := #[{ on := 3, ground := Ground.data }, { on := 2, ground := Ground.data }, { on := 2, ground := Ground.chain }, { on := 0, ground := Ground.phase }, { on := 1, ground := Ground.phase }, { on := 2, ground := Ground.phase }, { on := 3, ground := Ground.phase }], guard := none }

theorem top_lm : Lm [0, 0, 0, 0, 0, 0, 0, 0, 0, 0, 0, 0, 0, 0, 0, 4096] := by unfold Lm; decide
theorem root_exp : lim 16 (val [0, 0, 0, 0, 0, 0, 0, 0, 0, 0, 0, 0, 0, 0, 0, 4096] - val [2, 0, 0, 0, 0, 0, 0, 0, 0, 0, 0, 0, 0, 0, 0, 0]) = E8 := by decide

set_option maxHeartbeats 2000000 in
theorem implRootExp (w : World) :
  Calls Tryz.prog 131 #[] w fun e w' => e = .returned (.agg (I64 E8).toArray) ∧ Below w.heap.size w w' := by
 have HM : Hid (∀ Z, Calls Tryz.prog 129 #[.agg #[.int .i64 0, .int .i64 0, .int .i64 0, .int .i64 0, .int .i64 0, .int .i64 0, .int .i64 0, .int .i64 0, .int .i64 0, .int .i64 0, .int .i64 0, .int .i64 0, .int .i64 0, .int .i64 0, .int .i64 0, .int .i64 4096], .agg #[.int .i64 2, .int .i64 0, .int .i64 0, .int .i64 0, .int .i64 0, .int .i64 0, .int .i64 0, .int .i64 0, .int .i64 0, .int .i64 0, .int .i64 0, .int .i64 0, .int .i64 0, .int .i64 0, .int .i64 0, .int .i64 0]] Z fun e w' => e = .returned (.agg (I64 E8).toArray) ∧ Below Z.heap.size Z w') := by
  unfold Hid; intro Z
  have := implMinus [0, 0, 0, 0, 0, 0, 0, 0, 0, 0, 0, 0, 0, 0, 0, 4096] [2, 0, 0, 0, 0, 0, 0, 0, 0, 0, 0, 0, 0, 0, 0, 0] Z rfl rfl top_lm two_lm
  rw [minus_lim rfl rfl (by decide) (by decide), root_exp] at this
  exact this
 have g0 : Arr (w.alloc (.cells zV 65)) w.heap.size 65 (I64 Z16) := Arr.new w (I64 Z16) _
 have gB : Below w.heap.size w (w.alloc (.cells zV 65)) := (Below.refl _ _).alloc (Nat.le_refl _) _
 go_enter Tryz.func131, Tryz.ntmps131
 go_wp2_with fail
 refine (HM.out _).mono ?_
 rintro e w1 ⟨rfl, hb1⟩
 have h0 := g0.kept hb1
 have hB := gB.trans (hb1.mono gB.size)
 have h1 := h0.row (I64 E8)
 have hB1 := setRow_below hB w.heap.size (I64 E8).toArray (Nat.le_refl _)
 clear g0 gB hb1 HM
 go_wp2_with (refine wpList_store_row rfl 65 _ _ rfl w.heap.size (I64 E8).toArray rfl rfl 65 _ h0 infoL rfl (by simp [E8, Value.oneCell']) ?_)
 exact bodyPost_ret (results_cell_row rfl _ _ w.heap.size 65 (I64 E8).toArray (0, 0) _ rfl h1 Tryz.underlying65 rfl infoL) rfl ⟨rfl, hB1⟩

structure RQ (w W : World) (E : Nat) (a r : List Int) : Prop where
 l2 : L2 w W a
 vq : Vr W 9 (I64 QL)
 pr : Arr W E 65 (I64 r)
 lt : w.heap.size + 1 < E
 w1 : 9 < w.heap.size
theorem RQ.go {w A B : World} {E : Nat} {a r : List Int} (h : RQ w A E a r) (hb : Below A.heap.size A B) : RQ w B E a r := ⟨h.l2.go hb, h.vq.kept hb, h.pr.kept hb, h.lt, h.w1⟩
theorem RQ.put {w W : World} {E : Nat} {a r : List Int} (h : RQ w W E a r) (s : List Int) (hl : (I64 r).length = (I64 s).length) : RQ w (W.setCells E 0 (I64 s)) E a s := by
 have := h.lt
 have := h.w1
 exact ⟨⟨setCells_below (by omega) _ _ h.l2.fr, Arr.setCellsO (by omega) _ _ h.l2.pa, Arr.setCellsO (by omega) _ _ h.l2.pr, Vr.setCellsO (by have := h.l2.g0; omega) h.l2.vr, h.l2.g0⟩, Vr.setCellsO (by omega) h.vq, Arr.setCells0 h.pr hl, h.lt, h.w1⟩
theorem RQ.putR {w W : World} {E : Nat} {a r : List Int} (h : RQ w W E a r) (s : List Int) : RQ w (W.setRow E (I64 s).toArray) E a s := by
 have := h.lt
 have := h.w1
 exact ⟨⟨setRow_below h.l2.fr _ _ (by omega), h.l2.pa.rowOther _ _ (by omega), h.l2.pr.rowOther _ _ (by omega), h.l2.vr.rowOther _ (by have := h.l2.g0; omega), h.l2.g0⟩, h.vq.rowOther _ (by omega), h.pr.row _, h.lt, h.w1⟩
structure RZ (w W : World) (a : List Int) : Prop where
 l2 : L2 w W a
 vq : Vr W 9 (I64 QL)
 w1 : 9 < w.heap.size
theorem RZ.go {w A B : World} {a : List Int} (h : RZ w A a) (hb : Below A.heap.size A B) : RZ w B a := ⟨h.l2.go hb, h.vq.kept hb, h.w1⟩
theorem RZ.one {w W : World} {a : List Int} (h : RZ w W a) : W.rangeAt w.heap.size 0 (I64 a) := arr_range h.l2.pa
theorem RZ.fresh {w W : World} {a : List Int} (h : RZ w W a) : RQ w (W.alloc (.cells (I64 Z16).toArray 65)) W.heap.size a Z16 := by
 have hb : Below W.heap.size W (W.alloc (.cells (I64 Z16).toArray 65)) := (Below.refl _ _).alloc (Nat.le_refl _) _
 exact ⟨h.l2.go hb, h.vq.kept hb, Arr.new _ _ _, h.l2.pr.lt, h.w1⟩
theorem RQ.one {w W : World} {E : Nat} {a r : List Int} (h : RQ w W E a r) : W.rangeAt w.heap.size 0 (I64 a) := arr_range h.l2.pa
theorem RQ.both {w W : World} {E : Nat} {a r : List Int} (h : RQ w W E a r) : W.rangeAt E 0 (I64 r) ∧ W.rangeAt w.heap.size 0 (I64 a) := ⟨arr_range h.pr, arr_range h.l2.pa⟩
theorem QL_lm : Lm QL := by unfold Lm QL; decide
theorem rt2_ok (a : List Int) : feOk (rt2 a) = true := by
 rw [feOk_iff]
 refine ⟨rt2_len a, rt2_lm a, ?_⟩
 unfold rt2
 split
 ·unfold rt1; rw [val_red]; exact (red_lt _).2
 ·rw [val_red]; exact (red_lt _).2

set_option maxHeartbeats 4000000 in
theorem implRoot16 (a : List Int) (w : World) (ha : feOk a = true) (hV : Vr w 4 (I64 PL)) (hQ : Vr w 9 (I64 QL)) :
  Calls Tryz.prog 102 #[.agg (I64 a).toArray] w fun e w' => e = .returned (.tuple #[.agg (I64 (rtR a)).toArray, .bool (rtOk a)]) ∧ Below w.heap.size w w' := by
 obtain ⟨la16, la, va⟩ := (feOk_iff a).1 ha
 obtain ⟨R, hR⟩ : ∃ R, R = rt1 a := ⟨_, rfl⟩
 have hRl : R.length = 16 := by rw [hR]; exact red_len _
 have hRm : Lm R := by rw [hR]; exact red_lm _
 have HPW : Hid (∀ Z, Vr Z 4 (I64 PL) → Calls Tryz.prog 130 #[.agg (I64 a).toArray, .agg (I64 E8).toArray] Z fun e w' => e = .returned (.agg (I64 R).toArray) ∧ Below Z.heap.size Z w') := by
  unfold Hid; intro Z hZ
  have := implPower a E8 Z ha rfl (by intro x hx; simp [E8] at hx; omega) (by decide) hZ
  rw [E8_val] at this
  rw [hR]
  exact this
 have HR : Hid _ := hR
 obtain ⟨W, hW⟩ : ∃ W, W = (w.alloc (.cells (I64 a).toArray 65)).alloc (.cells zV 65) := ⟨_, rfl⟩
 have EE : RZ w W.drew a := by
  have h2 : L2 w W a := by rw [hW]; exact L2.new a hV
  have : RZ w W a := ⟨h2, hQ.kept h2.fr, hQ.lt⟩
  exact this.go (Below.refl _ _).drew
 obtain ⟨A, hA⟩ : ∃ A, A = (I64 a).toArray := ⟨_, rfl⟩
 rw [← hA] at hW ⊢
 have hone := one_lm R
 have hu : Tryz.prog.underlying 65 = some (.array 16 3) := Tryz.underlying65
 have hia : (Tryz.prog.info? 65).map (·.size) = some (I64 a).length := by simpa [la16] using infoL
 have hir : (Tryz.prog.info? 65).map (·.size) = some (I64 R).toArray.size := by simpa [hRl] using infoL
 have hirl : (Tryz.prog.info? 65).map (·.size) = some (I64 R).length := by simpa [hRl] using infoL
 have hip : (Tryz.prog.info? 65).map (·.size) = some (I64 PL).toArray.size := infoL
 have hiq : (Tryz.prog.info? 65).map (·.size) = some (I64 QL).toArray.size := infoL
 clear hA hV hQ hR ha
 go_enter Tryz.func102, Tryz.ntmps102
 go_wp2
 rw [← hW]
 clear hW
 rename_i K hKK
 have REST : ∀ (E : Nat) (V : World), RQ w V E a R → K { tmps := #[.agg A, .pointer (some ⟨w.heap.size, 0, none⟩), .pointer (some ⟨w.heap.size + 1, 0, none⟩), .bool false, .pointer (some ⟨E, 0, none⟩), .agg (I64 a).toArray, .agg (I64 E8).toArray, .agg (I64 R).toArray, undef, undef, undef, undef, undef, undef, undef, undef, undef, undef, undef, undef, undef, undef, undef, undef, undef, undef, undef, undef, undef], defers := [] } V := by
  intro E V RR
  obtain ⟨S, hS⟩ : ∃ S, S = sqF R := ⟨_, rfl⟩
  have hSl : S.length = 16 := by rw [hS]; exact red_len _
  have HSQ : Hid (∀ Z, Vr Z 4 (I64 PL) → Calls Tryz.prog 98 #[.agg (I64 R).toArray, .agg (I64 R).toArray] Z fun e w' => e = .returned (.agg (I64 S).toArray) ∧ Below Z.heap.size Z w') := by unfold Hid; intro Z hZ; rw [hS]; exact implProduct R R Z hRl hRl hRm hRm hZ
  obtain ⟨s, hs⟩ : ∃ s, s = decide (S = a) := ⟨_, rfl⟩
  have hq : ∀ Z, (Op.equalIn 10000 65 (.agg (I64 S).toArray) (.agg (I64 a).toArray)).run Tryz.prog Z = .ok s Z := by intro Z; rw [hs]; exact run_eqL S a Z hSl la16
  have H2 : Hid (rt2 a = if s = true then R else red (val R * val QL)) := by unfold Hid rt2; rw [← HR.out, ← hS, hs]; simp
  clear hS hs hSl
  replace RR : RQ w V.drew E a R := RR.go (Below.refl _ _).drew
  clear EE
  go_wp2
  rename_i Ka hKa Kb hKb
  have REST4 : ∀ (u13 u14 u15 : Value) (V : World) (T : List Int), T = rt2 a → RQ w V E a T → Ka { tmps := #[.agg A, .pointer (some ⟨w.heap.size, 0, none⟩), .pointer (some ⟨w.heap.size + 1, 0, none⟩), .bool false, .pointer (some ⟨E, 0, none⟩), .agg (I64 a).toArray, .agg (I64 E8).toArray, .agg (I64 R).toArray, .agg (I64 R).toArray, .agg (I64 R).toArray, .agg (I64 S).toArray, .agg (I64 a).toArray, .bool (!s), u13, u14, u15, undef, undef, undef, undef, undef, undef, undef, undef, undef, undef, undef, undef, undef], defers := [] } V := by
   intro u13 u14 u15 V T hT RR
   clear hq HSQ H2
   have hTl : T.length = 16 := by rw [hT]; exact rt2_len a
   have hTm : Lm T := by rw [hT]; exact rt2_lm a
   have hTv : val T < P25519 := by rw [hT]; exact ((feOk_iff _).1 (rt2_ok a)).2.2
   obtain ⟨Sq, hSq⟩ : ∃ Sq, Sq = sqF T := ⟨_, rfl⟩
   have hSl : Sq.length = 16 := by rw [hSq]; exact red_len _
   have HSQ : Hid (∀ Z, Vr Z 4 (I64 PL) → Calls Tryz.prog 98 #[.agg (I64 T).toArray, .agg (I64 T).toArray] Z fun e w' => e = .returned (.agg (I64 Sq).toArray) ∧ Below Z.heap.size Z w') := by unfold Hid; intro Z hZ; rw [hSq]; exact implProduct T T Z hTl hTl hTm hTm hZ
   obtain ⟨t, ht⟩ : ∃ t, t = rtOk a := ⟨_, rfl⟩
   have hq : ∀ Z, (Op.equalIn 10000 65 (.agg (I64 Sq).toArray) (.agg (I64 a).toArray)).run Tryz.prog Z = .ok t Z := by intro Z; rw [ht]; unfold rtOk; rw [← hT, ← hSq]; exact run_eqL Sq a Z hSl la16
   have hitl : (Tryz.prog.info? 65).map (·.size) = some (I64 T).length := by simpa [hTl] using infoL
   have hiT : (Tryz.prog.info? 65).map (·.size) = some (I64 T).toArray.size := by simpa [hTl] using infoL
   have HT : Hid _ := hT
   have HOK : Hid _ := ht
   clear hSq hT ht hSl
   replace RR : RQ w V.drew E a T := RR.go (Below.refl _ _).drew
   go_wp2
   refine wp_region_held_drew (S := fun W => W.rangeAt E 0 (I64 T) ∧ W.rangeAt w.heap.size 0 (I64 a)) (by kernel_rfl) RR.both (fun hHeld => ?_)
   refine wpAnyH_take (i := 0) (oi := { dst := some 16, op := Op.load 65 (Operand.tmp 4), type := 65, pos := "l04_field.go:269", after := #[], guard := none }) (v := _) rfl (by kernel_rfl) (by kernel_rfl) (by kernel_rfl) (fun _ _ _ h => h) (yieldsIf_load_mid (by rfl) _ _ rfl _ _ rfl (I64 T) _ (fun _ h => h.1) hu rfl hitl) (by assumption) ?_
   simp only [aP]
   refine wpAnyH_take (i := 1) (oi := { dst := some 17, op := Op.load 65 (Operand.tmp 4), type := 65, pos := "l04_field.go:269", after := #[], guard := none }) (v := _) rfl (by kernel_rfl) (by kernel_rfl) (by kernel_rfl) (fun _ _ _ h => h) (yieldsIf_load_mid (by rfl) _ _ rfl _ _ rfl (I64 T) _ (fun _ h => h.1) hu rfl hitl) (by assumption) ?_
   simp only [aP]
   refine wpAnyH_take (i := 3) (oi := { dst := some 19, op := Op.load 65 (Operand.tmp 1), type := 65, pos := "l04_field.go:269", after := #[], guard := none }) (v := _) rfl (by kernel_rfl) (by kernel_rfl) (by kernel_rfl) (fun _ _ _ h => h) (yieldsIf_load_mid (by rfl) _ _ rfl _ _ rfl (I64 a) _ (fun _ h => h.2) hu rfl hia) (by assumption) ?_
   simp only [aP]
   refine wpAnyH_ready (rs := [2]) (by kernel_rfl) (by simp) (AllReadyH.cons (o := { dst := some 18, op := Op.call { callee := Callee.value (Operand.func 98), args := #[Operand.tmp 16, Operand.tmp 17], argTypes := #[65, 65] }, type := 65, pos := "l04_field.go:269", after := #[{ on := 0, ground := Ground.data }, { on := 1, ground := Ground.data }], guard := none }) rfl (fun K hK => ?_) AllReadyH.nil)
   go_simp
   refine (HSQ.out _ RR.l2.vr).mono ?_
   rintro e w5 ⟨rfl, hb5⟩
   replace RR := RR.go hb5
   go_wp2_with fail
   refine hK.out _ _ RR.both (fun hHeld => ?_)
   clear hK K hb5
   refine wpAnyH_ready (rs := [4]) (by kernel_rfl) (by simp) (AllReadyH.cons (o := { dst := some 20, op := Op.binOp BinOp.neq 65 (Operand.tmp 18) (Operand.tmp 19) 65, type := 4, pos := "l04_field.go:269", after := #[{ on := 2, ground := Ground.data }, { on := 3, ground := Ground.data }], guard := none }) rfl (fun K hK => ?_) AllReadyH.nil)
   go_simp
   refine hK.out _ _ RR.both (fun hHeld => ?_)
   clear hK K
   refine wpAnyH_done (by kernel_rfl) ?_ _
   clear hHeld
   clear hq HSQ
   cases t with
   | false =>
    have HRES : Hid (rtR a = Z16 ∧ rtOk a = false) := ⟨by unfold rtR; rw [← HOK.out]; rfl, HOK.out.symm⟩
    have hpz := RR.l2.pr
    have hp2 := hpz.row (I64 Z16)
    have hb2 := setRow_below RR.l2.fr (w.heap.size + 1) (I64 Z16).toArray (by omega)
    clear RR
    go_wp2_with (refine wpList_store_row rfl 65 _ _ rfl (w.heap.size + 1) (I64 Z16).toArray rfl rfl 65 _ hpz infoL rfl (by simp [Z16, Value.oneCell']) ?_)
    exact bodyPost_ret (results_row_tmp (v := .bool false) (cs := I64 Z16) rfl rfl rfl hp2 Tryz.underlying65 rfl infoL) rfl ⟨by rw [HRES.out.1, HRES.out.2], hb2⟩
   | true =>
    obtain ⟨x, hx⟩ : ∃ x, x = T.getD 0 0 := ⟨_, rfl⟩
    have HX : Hid _ := hx
    have HBT : Hid (∀ Z, Calls Tryz.prog 42 #[.agg (I64 T).toArray, .int .i64 0] Z fun e w' => e = .returned (.int .i64 (x % 2)) ∧ Below Z.heap.size Z w') := by
     unfold Hid; intro Z
     have := implBit T 0 Z hTl hTm (by omega)
     simp only [Nat.zero_div, Nat.zero_mod, Int.pow_zero, Int.ediv_one, ← hx] at this
     exact this
    clear hx
    go_wp2_with (refine wpList_load_row rfl 65 _ rfl E rfl 65 (I64 T).toArray (0, 0) _ RR.pr Tryz.underlying65 rfl hiT ?_)
    refine (HBT.out _).mono ?_
    rintro e w6 ⟨rfl, hb6⟩
    replace RR := RR.go hb6
    clear hb6 HBT
    by_cases hodd : x % 2 = 1
    ·obtain ⟨U, hU⟩ : ∃ U, U = tk16 PL T := ⟨_, rfl⟩
     have hUl : U.length = 16 := by rw [hU, tk16_lim PL_len hTl]; exact lim_len _ _
     have HRES : Hid (rtR a = U ∧ rtOk a = true) := ⟨by unfold rtR rt3; rw [← HOK.out, ← HT.out, ← HX.out, if_pos hodd, hU]; rfl, HOK.out.symm⟩
     have HTK : Hid (∀ Z, Calls Tryz.prog 129 #[.agg (I64 PL).toArray, .agg (I64 T).toArray] Z fun e w' => e = .returned (.agg (I64 U).toArray) ∧ Below Z.heap.size Z w') := by
      unfold Hid; intro Z
      have := implMinus PL T Z PL_len hTl PL_lm hTm
      have nT := val_nonneg (fun x hx => (hTm x hx).1)
      rw [minus_lim PL_len hTl (by rw [PL_val]; omega) (by rw [PL_val]; unfold P25519; omega), ← tk16_lim PL_len hTl, ← hU] at this
      exact this
     have hiU : (Tryz.prog.info? 65).map (·.size) = some (I64 U).toArray.size := by simpa [hUl] using infoL
     clear hU
     rw [hodd]
     clear hodd
     obtain ⟨gt, gz, hg⟩ := RR.l2.vr
     go_wp2_with (first
      | (refine wpList_load_row rfl 65 _ rfl 4 rfl gt (I64 PL).toArray gz _ hg Tryz.underlying65 rfl hip ?_)
      | (refine wpList_load_row rfl 65 _ rfl E rfl 65 (I64 T).toArray (0, 0) _ RR.pr Tryz.underlying65 rfl hiT ?_))
     clear hg
     refine (HTK.out _).mono ?_
     rintro e w7 ⟨rfl, hb7⟩
     replace RR := RR.go hb7
     clear hb7 HTK
     have R2 := RR.putR U
     have hpz := R2.l2.pr
     have hp2 := hpz.row (I64 U)
     have hb2 := setRow_below R2.l2.fr (w.heap.size + 1) (I64 U).toArray (by omega)
     go_wp2_with (first
      | (refine wpList_store_row rfl 65 _ _ rfl E (I64 U).toArray rfl rfl 65 _ RR.pr hiU (by simp [hTl, hUl]) (by simp [Value.oneCell']) ?_)
      | (refine wpList_load_row rfl 65 _ rfl E rfl 65 (I64 U).toArray (0, 0) _ R2.pr Tryz.underlying65 rfl hiU ?_)
      | (refine wpList_store_row rfl 65 _ _ rfl (w.heap.size + 1) (I64 U).toArray rfl rfl 65 _ hpz hiU (by simp [hUl]) (by simp [Value.oneCell']) ?_))
     exact bodyPost_ret (results_row_tmp (v := .bool true) (cs := I64 U) rfl rfl rfl hp2 Tryz.underlying65 rfl (by simpa [hUl] using infoL)) rfl ⟨by rw [HRES.out.1, HRES.out.2], hb2⟩
    ·have HRES : Hid (rtR a = T ∧ rtOk a = true) := ⟨by unfold rtR rt3; rw [← HOK.out, ← HT.out, ← HX.out, if_neg hodd]; rfl, HOK.out.symm⟩
     obtain ⟨z, hz⟩ : ∃ z, z = x % 2 := ⟨_, rfl⟩
     rw [← hz] at hodd ⊢
     clear hz
     have hbf : (z == 1) = false := by simp [hodd]
     have hpr := RR.pr
     have hpz := RR.l2.pr
     have hp2 := hpz.row (I64 T)
     have hb2 := setRow_below RR.l2.fr (w.heap.size + 1) (I64 T).toArray (by omega)
     clear RR
     go_wp2_with (first
      | (refine wpList_load_row rfl 65 _ rfl E rfl 65 (I64 T).toArray (0, 0) _ hpr Tryz.underlying65 rfl hiT ?_)
      | (refine wpList_store_row rfl 65 _ _ rfl (w.heap.size + 1) (I64 T).toArray rfl rfl 65 _ hpz hiT (by simp [hTl]) (by simp [Value.oneCell']) ?_))
     exact bodyPost_ret (results_row_tmp (v := .bool true) (cs := I64 T) rfl rfl rfl hp2 Tryz.underlying65 rfl (by simpa [hTl] using infoL)) rfl ⟨by rw [HRES.out.1, HRES.out.2], hb2⟩
  clear hKa
  refine wp_region_held_drew (S := fun W => W.rangeAt E 0 (I64 R) ∧ W.rangeAt w.heap.size 0 (I64 a)) (by kernel_rfl) RR.both (fun hHeld => ?_)
  refine wpAnyH_take (i := 0) (oi := { dst := some 8, op := Op.load 65 (Operand.tmp 4), type := 65, pos := "l04_field.go:266", after := #[], guard := none }) (v := _) rfl (by kernel_rfl) (by kernel_rfl) (by kernel_rfl) (fun _ _ _ h => h) (yieldsIf_load_mid (by rfl) _ _ rfl _ _ rfl (I64 R) _ (fun _ h => h.1) hu rfl hirl) (by assumption) ?_
  simp only [aP]
  refine wpAnyH_take (i := 1) (oi := { dst := some 9, op := Op.load 65 (Operand.tmp 4), type := 65, pos := "l04_field.go:266", after := #[], guard := none }) (v := _) rfl (by kernel_rfl) (by kernel_rfl) (by kernel_rfl) (fun _ _ _ h => h) (yieldsIf_load_mid (by rfl) _ _ rfl _ _ rfl (I64 R) _ (fun _ h => h.1) hu rfl hirl) (by assumption) ?_
  simp only [aP]
  refine wpAnyH_take (i := 3) (oi := { dst := some 11, op := Op.load 65 (Operand.tmp 1), type := 65, pos := "l04_field.go:266", after := #[], guard := none }) (v := _) rfl (by kernel_rfl) (by kernel_rfl) (by kernel_rfl) (fun _ _ _ h => h) (yieldsIf_load_mid (by rfl) _ _ rfl _ _ rfl (I64 a) _ (fun _ h => h.2) hu rfl hia) (by assumption) ?_
  simp only [aP]
  refine wpAnyH_ready (rs := [2]) (by kernel_rfl) (by simp) (AllReadyH.cons (o := { dst := some 10, op := Op.call { callee := Callee.value (Operand.func 98), args := #[Operand.tmp 8, Operand.tmp 9], argTypes := #[65, 65] }, type := 65, pos := "l04_field.go:266", after := #[{ on := 0, ground := Ground.data }, { on := 1, ground := Ground.data }], guard := none }) rfl (fun K hK => ?_) AllReadyH.nil)
  go_simp
  refine (HSQ.out _ RR.l2.vr).mono ?_
  rintro e w5 ⟨rfl, hb5⟩
  replace RR := RR.go hb5
  go_wp2_with fail
  refine hK.out _ _ RR.both (fun hHeld => ?_)
  clear hK K hb5
  refine wpAnyH_ready (rs := [4]) (by kernel_rfl) (by simp) (AllReadyH.cons (o := { dst := some 12, op := Op.binOp BinOp.neq 65 (Operand.tmp 10) (Operand.tmp 11) 65, type := 4, pos := "l04_field.go:266", after := #[{ on := 2, ground := Ground.data }, { on := 3, ground := Ground.data }], guard := none }) rfl (fun K hK => ?_) AllReadyH.nil)
  go_simp
  refine hK.out _ _ RR.both (fun hHeld => ?_)
  clear hK K
  refine wpAnyH_done (by kernel_rfl) ?_ _
  clear hHeld
  clear hq HSQ
  cases s with
  | false =>
   obtain ⟨T, hT⟩ : ∃ T, T = red (val R * val QL) := ⟨_, rfl⟩
   have hT2 : T = rt2 a := by rw [hT]; exact H2.out.symm
   have hTl : T.length = 16 := by rw [hT]; exact red_len _
   have HQ : Hid (∀ Z, Vr Z 4 (I64 PL) → Calls Tryz.prog 98 #[.agg (I64 R).toArray, .agg (I64 QL).toArray] Z fun e w' => e = .returned (.agg (I64 T).toArray) ∧ Below Z.heap.size Z w') := by unfold Hid; intro Z hZ; rw [hT]; exact implProduct R QL Z hRl rfl hRm QL_lm hZ
   have hiT : (Tryz.prog.info? 65).map (·.size) = some (I64 T).toArray.size := by simpa [hTl] using infoL
   have HT2 : Hid _ := hT2
   clear hT hT2
   obtain ⟨gt, gz, hg⟩ := RR.vq
   go_wp2_with (first
    | (refine wpList_load_row rfl 65 _ rfl 9 rfl gt (I64 QL).toArray gz _ hg Tryz.underlying65 rfl hiq ?_)
    | (refine wpList_load_row rfl 65 _ rfl E rfl 65 (I64 R).toArray (0, 0) _ RR.pr Tryz.underlying65 rfl hir ?_))
   clear hg
   refine (HQ.out _ RR.l2.vr).mono ?_
   rintro e w7 ⟨rfl, hb7⟩
   replace RR := RR.go hb7
   clear hb7 HQ
   have R2 := RR.putR T
   go_wp2_with (refine wpList_store_row rfl 65 _ _ rfl E (I64 T).toArray rfl rfl 65 _ RR.pr hiT (by simp [hTl, hRl]) (by simp [Value.oneCell']) ?_)
   exact REST4 _ _ _ _ _ HT2.out R2
  | true =>
   exact hKb _ _ (by go_wp2; exact REST4 _ _ _ _ _ H2.out.symm RR)
 refine wp_region_held_drew (S := fun W => W.rangeAt w.heap.size 0 (I64 a)) (by kernel_rfl) EE.one (fun hHeld => ?_)
 refine wpAnyH_take (i := 0) (oi := { dst := some 5, op := Op.load 65 (Operand.tmp 1), type := 65, pos := "l04_field.go:265", after := #[], guard := none }) (v := _) rfl (by kernel_rfl) (by kernel_rfl) (by kernel_rfl) (fun _ _ _ h => h) (yieldsIf_load_mid (by rfl) _ _ rfl _ _ rfl (I64 a) _ (fun _ h => h) hu rfl hia) (by assumption) ?_
 simp only [aP]
 refine wpAnyH_ready (rs := [1, 3]) (by kernel_rfl) (by simp) (AllReadyH.cons (o := { dst := some 6, op := Op.call { callee := Callee.value (Operand.func 131), args := #[], argTypes := #[] }, type := 65, pos := "l04_field.go:265", after := #[], guard := none }) rfl (fun K hK => ?_) (AllReadyH.cons (o := { dst := some 4, op := Op.alloc 65, type := 0, pos := "l04_field.go:265", after := #[], guard := none }) rfl (fun K hK => ?_) AllReadyH.nil))
 ·go_simp
  refine (implRootExp _).mono ?_
  rintro e w1 ⟨rfl, hb⟩
  replace EE := EE.go hb
  go_wp2_with fail
  refine hK.out _ _ EE.one (fun hHeld => ?_)
  clear hK K hb
  refine wpAnyH_ready (rs := [2, 3]) (by kernel_rfl) (by simp) (AllReadyH.cons (o := { dst := some 7, op := Op.call { callee := Callee.value (Operand.func 130), args := #[Operand.tmp 5, Operand.tmp 6], argTypes := #[65, 65] }, type := 65, pos := "l04_field.go:265", after := #[{ on := 0, ground := Ground.data }, { on := 1, ground := Ground.data }, { on := 1, ground := Ground.chain }], guard := none }) rfl (fun K hK => ?_) (AllReadyH.cons (o := { dst := some 4, op := Op.alloc 65, type := 0, pos := "l04_field.go:265", after := #[], guard := none }) rfl (fun K hK => ?_) AllReadyH.nil))
  ·go_simp
   refine (HPW.out _ EE.l2.vr).mono ?_
   rintro e w2 ⟨rfl, hb⟩
   replace EE := EE.go hb
   go_wp2_with fail
   refine hK.out _ _ EE.one (fun hHeld => ?_)
   clear hK K hb
   refine wpAnyH_ready (rs := [3]) (by kernel_rfl) (by simp) (AllReadyH.cons (o := { dst := some 4, op := Op.alloc 65, type := 0, pos := "l04_field.go:265", after := #[], guard := none }) rfl (fun K hK => ?_) AllReadyH.nil)
   go_simp
   have RR := EE.fresh
   refine hK.out _ _ RR.one (fun hHeld => ?_)
   clear hK K
   refine wpAnyH_ready (rs := [4]) (by kernel_rfl) (by simp) (AllReadyH.cons (o := qJh0) rfl (fun K hK => ?_) AllReadyH.nil)
   have hth : (w2.alloc (.cells (I64 Z16).toArray 65)).there w2.heap.size 0 (I64 R).toArray.size := by simpa [hRl] using arr_there RR.pr
   rw [if_pos (by rfl)]
   refine wp_store_mid _ _ _ rfl _ _ (I64 R).toArray rfl rfl hth hir (all_oneCell_toArray hone) ?_
   replace RR := RR.put R (by simp [hRl])
   refine hK.out _ _ RR.one (fun hHeld => ?_)
   clear hK K hth
   refine wpAnyH_done (by kernel_rfl) ?_ _
   exact REST _ _ RR
  ·go_simp
   have RR := EE.fresh
   refine hK.out _ _ RR.one (fun hHeld => ?_)
   clear hK K
   refine wpAnyH_ready (rs := [2]) (by kernel_rfl) (by simp) (AllReadyH.cons (o := { dst := some 7, op := Op.call { callee := Callee.value (Operand.func 130), args := #[Operand.tmp 5, Operand.tmp 6], argTypes := #[65, 65] }, type := 65, pos := "l04_field.go:265", after := #[{ on := 0, ground := Ground.data }, { on := 1, ground := Ground.data }, { on := 1, ground := Ground.chain }], guard := none }) rfl (fun K hK => ?_) AllReadyH.nil)
   go_simp
   refine (HPW.out _ RR.l2.vr).mono ?_
   rintro e w2 ⟨rfl, hb⟩
   replace RR := RR.go hb
   go_wp2_with fail
   refine hK.out _ _ RR.one (fun hHeld => ?_)
   clear hK K hb
   refine wpAnyH_ready (rs := [4]) (by kernel_rfl) (by simp) (AllReadyH.cons (o := qJh0) rfl (fun K hK => ?_) AllReadyH.nil)
   have hth : (w2).there w1.heap.size 0 (I64 R).toArray.size := by simpa [hRl] using arr_there RR.pr
   rw [if_pos (by rfl)]
   refine wp_store_mid _ _ _ rfl _ _ (I64 R).toArray rfl rfl hth hir (all_oneCell_toArray hone) ?_
   replace RR := RR.put R (by simp [hRl])
   refine hK.out _ _ RR.one (fun hHeld => ?_)
   clear hK K hth
   refine wpAnyH_done (by kernel_rfl) ?_ _
   exact REST _ _ RR
 ·go_simp
  have RR := EE.fresh
  refine hK.out _ _ RR.one (fun hHeld => ?_)
  clear hK K
  refine wpAnyH_ready (rs := [1]) (by kernel_rfl) (by simp) (AllReadyH.cons (o := { dst := some 6, op := Op.call { callee := Callee.value (Operand.func 131), args := #[], argTypes := #[] }, type := 65, pos := "l04_field.go:265", after := #[], guard := none }) rfl (fun K hK => ?_) AllReadyH.nil)
  go_simp
  refine (implRootExp _).mono ?_
  rintro e w1 ⟨rfl, hb⟩
  replace RR := RR.go hb
  go_wp2_with fail
  refine hK.out _ _ RR.one (fun hHeld => ?_)
  clear hK K hb
  refine wpAnyH_ready (rs := [2]) (by kernel_rfl) (by simp) (AllReadyH.cons (o := { dst := some 7, op := Op.call { callee := Callee.value (Operand.func 130), args := #[Operand.tmp 5, Operand.tmp 6], argTypes := #[65, 65] }, type := 65, pos := "l04_field.go:265", after := #[{ on := 0, ground := Ground.data }, { on := 1, ground := Ground.data }, { on := 1, ground := Ground.chain }], guard := none }) rfl (fun K hK => ?_) AllReadyH.nil)
  go_simp
  refine (HPW.out _ RR.l2.vr).mono ?_
  rintro e w2 ⟨rfl, hb⟩
  replace RR := RR.go hb
  go_wp2_with fail
  refine hK.out _ _ RR.one (fun hHeld => ?_)
  clear hK K hb
  refine wpAnyH_ready (rs := [4]) (by kernel_rfl) (by simp) (AllReadyH.cons (o := qJh0) rfl (fun K hK => ?_) AllReadyH.nil)
  have hth : (w2).there W.heap.size 0 (I64 R).toArray.size := by simpa [hRl] using arr_there RR.pr
  rw [if_pos (by rfl)]
  refine wp_store_mid _ _ _ rfl _ _ (I64 R).toArray rfl rfl hth hir (all_oneCell_toArray hone) ?_
  replace RR := RR.put R (by simp [hRl])
  refine hK.out _ _ RR.one (fun hHeld => ?_)
  clear hK K hth
  refine wpAnyH_done (by kernel_rfl) ?_ _
  exact REST _ _ RR
end Go.Proofs.YtihoaakbkffejaaGreatDoor

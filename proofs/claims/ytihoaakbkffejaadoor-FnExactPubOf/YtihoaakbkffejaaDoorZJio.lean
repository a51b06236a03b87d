/-
  What is proved here: contracts of the program's limbsOf, fieldOpen and FeOk: whether a slice of ints is a number of the field; where the program's variable holds the prime.
-/
import Derived.Test.YtihoaakbkffejaaDoorZJf
import Derived.Test.YtihoaakbkffejaaDoorZJhi
namespace Go.Proofs.YtihoaakbkffejaaDoor
open Go.RowKit
set_option maxRecDepth 100000
abbrev qJio0 : Oper := { dst := some 15, op := Op.load 81 (Operand.tmp 4), type := 81, pos := "l04_field.go:96", after := #[{ on := 2, ground := Ground.guard }], guard := some (2, true) }
abbrev qJio1 : Oper := { dst := some 16, op := Op.load 81 (Operand.global 6), type := 81, pos := "l04_field.go:96", after := #[{ on := 2, ground := Ground.guard }], guard := some (2, true) }
abbrev qJio2 : Oper := { dst := some 18, op := Op.pick (Operand.tmp 14) (Operand.tmp 17) (Operand.const (Value.bool false)), type := 4, pos := "l04_field.go:96", after := #[{ on := 2, ground := Ground.data }, { on := 5, ground := Ground.data }, { on := 7, ground := Ground.gcOnly Departure.lateStores }], guard := none }
abbrev qJio3 : Oper := { dst := none, op := Op.store 81 (Operand.tmp 2) (Operand.tmp 12), type := 0, pos := "l04_field.go:96", after := #[{ on := 0, ground := Ground.data }, { on := 5, ground := Ground.chain }, { on := 0, ground := Ground.phase }, { on := 1, ground := Ground.textOnly Departure.lateStores }, { on := 2, ground := Ground.textOnly Departure.lateStores }, { on := 3, ground := Ground.textOnly Departure.lateStores }, { on := 4, ground := Ground.textOnly Departure.lateStores }, { on := 5, ground := Ground.textOnly Departure.lateStoresUnsure }, { on := 6, ground := Ground.textOnly Departure.lateStores }], guard := none }

theorem feOk_lm (l : List Int) : feOk l = (lmOk l && decide (val l < P25519)) := rfl
theorem lmL_of {l : List Int} (h : feOk l = true) : lmL l = l := by
  have : lmOk l = true := by rw [feOk_lm] at h; simp only [Bool.and_eq_true] at h; exact h.1
  unfold lmL
  rw [if_pos this]
/-- The cells of fieldOpen: the result's, the limbs', and the program's prime. -/
structure OP (w W : World) (E : Nat) (l : List Int) : Prop where
  fr : Below w.heap.size w W
  pr : Arr W (w.heap.size + 1) 81 (I64 Z16)
  p4 : Arr W E 81 (I64 l)
  vr : Vr W 6 (I64 PL)
  g0 : 6 < w.heap.size
theorem OP.go {w A B : World} {E : Nat} {l : List Int} (h : OP w A E l) (hb : Below A.heap.size A B) : OP w B E l := ⟨h.fr.trans (hb.mono h.fr.size), h.pr.kept hb, h.p4.kept hb, h.vr.kept hb, h.g0⟩
theorem OP.all {w W : World} {E : Nat} {l : List Int} (h : OP w W E l) : W.rangeAt E 0 (I64 l) ∧ W.rangeAt 6 0 (I64 PL) := ⟨arr_range h.p4, vr_range h.vr⟩
theorem OP.put {w W : World} {E : Nat} {l : List Int} (h : OP w W E l) (hl : l.length = 16) (hE : E ≠ w.heap.size + 1) : Arr (W.setCells (w.heap.size + 1) 0 (I64 l)) (w.heap.size + 1) 81 (I64 l) ∧ Below w.heap.size w (W.setCells (w.heap.size + 1) 0 (I64 l)) ∧
    ((W.setCells (w.heap.size + 1) 0 (I64 l)).rangeAt E 0 (I64 l) ∧ (W.setCells (w.heap.size + 1) 0 (I64 l)).rangeAt 6 0 (I64 PL)) ∧ W.there (w.heap.size + 1) 0 (I64 l).toArray.size := by
  have h0 : 6 ≠ w.heap.size + 1 := by have := h.g0; omega
  exact ⟨Arr.setCells0 h.pr (by simp [hl]), setCells_below (by omega) _ _ h.fr, ⟨arr_range (Arr.setCellsO hE _ _ h.p4), vr_range (Vr.setCellsO h0 h.vr)⟩, by have := arr_there h.pr; simpa [hl] using this⟩

set_option maxHeartbeats 2000000 in
theorem implOpen (a : Option Addr) (n c : Nat) (xs : List Int) (w : World) (hx : Is w a n c xs) (hV : Vr w 6 (I64 PL)) :
    Calls Tryd.prog 69 #[.agg #[.slice a n c]] w fun e w' => e = .returned (.tuple #[.agg (I64 (lmL xs)).toArray, .bool (feOk xs)]) ∧ Below w.heap.size w w' := by
  obtain ⟨W, hW⟩ : ∃ W, W = (w.alloc (.cells #[.slice a n c] 58)).alloc (.cells #[.int .i64 0, .int .i64 0, .int .i64 0, .int .i64 0, .int .i64 0, .int .i64 0, .int .i64 0, .int .i64 0, .int .i64 0, .int .i64 0, .int .i64 0, .int .i64 0, .int .i64 0, .int .i64 0, .int .i64 0, .int .i64 0] 81) := ⟨_, rfl⟩
  have g1 : Arr W (w.heap.size + 1) 81 (I64 Z16) := by
    rw [hW]
    have := Arr.new (w.alloc (.cells #[.slice a n c] 58)) (I64 Z16) 81
    rw [World.size_alloc] at this
    exact this
  have gB : Below w.heap.size w W := by rw [hW]; exact ((Below.refl _ _).alloc (Nat.le_refl _) _).alloc (by simp) _
  have HLO := implLimbsOf a n c xs W (hx.below gB)
  have gV := hV.kept gB
  have hLl := lmL_len xs
  obtain ⟨q, hq⟩ : ∃ q, q = decide (val (lmL xs) < P25519) := ⟨_, rfl⟩
  have HQ : Hid (lmOk xs = true → ∀ Z, Calls Tryd.prog 71 #[.agg (I64 (lmL xs)).toArray, .agg (I64 PL).toArray] Z fun e w' => e = .returned (.bool q) ∧ Below Z.heap.size Z w') := by
    unfold Hid; intro h Z
    have e : lmL xs = xs := by unfold lmL; rw [if_pos h]
    have h2 := (lmOk_iff xs).1 h
    have := implBelow (lmL xs) PL Z hLl PL_len (by rw [e]; exact h2.2) PL_lm
    rw [PL_val, ← hq] at this
    exact this
  have HR1 : Hid (lmOk xs = true → feOk xs = q) := by
    unfold Hid; intro h
    have e : lmL xs = xs := by unfold lmL; rw [if_pos h]
    rw [hq, e, feOk_lm, h]; rfl
  have HR0 : Hid (lmOk xs = false → feOk xs = false) := by unfold Hid; intro h; rw [feOk_lm, h]; rfl
  obtain ⟨L, hL⟩ : ∃ L, L = lmL xs := ⟨_, rfl⟩
  obtain ⟨ok, hok⟩ : ∃ ok, ok = lmOk xs := ⟨_, rfl⟩
  obtain ⟨r, hr⟩ : ∃ r, r = feOk xs := ⟨_, rfl⟩
  rw [← hL] at HLO hLl HQ ⊢
  rw [← hok] at HLO HQ HR1 HR0
  rw [← hr] at HR1 HR0 ⊢
  have HLO' : Hid (Calls Tryd.prog 51 #[.slice a n c] W fun e w' => e = .returned (.tuple #[.agg (I64 L).toArray, .bool ok]) ∧ Below W.heap.size W w') := HLO
  clear HLO hL hok hr hq
  have hil : (Tryd.prog.info? 81).map (·.size) = some (I64 L).toArray.size := by simpa [hLl] using infoL
  have hill : (Tryd.prog.info? 81).map (·.size) = some (I64 L).length := by simpa [hLl] using infoL
  have hip : (Tryd.prog.info? 81).map (·.size) = some (I64 PL).length := infoL
  have hu : Tryd.prog.underlying 81 = some (.array 16 3) := Tryd.underlying81
  have hone := one_lm L
  go_enter Tryd.func69, Tryd.ntmps69
  go_wp2_with fail
  rw [← hW]
  refine HLO'.out.mono ?_
  rintro e w1 ⟨rfl, hb1⟩
  have g2 := g1.kept hb1
  have gB2 := gB.trans (hb1.mono gB.size)
  have gV2 := gV.kept hb1
  clear hW g1 gB gV hb1 HLO'
  have hsz := g2.lt
  obtain ⟨V, hVV⟩ : ∃ V, V = (w1.alloc (.cells #[.int .i64 0, .int .i64 0, .int .i64 0, .int .i64 0, .int .i64 0, .int .i64 0, .int .i64 0, .int .i64 0, .int .i64 0, .int .i64 0, .int .i64 0, .int .i64 0, .int .i64 0, .int .i64 0, .int .i64 0, .int .i64 0] 81)).setRow w1.heap.size (I64 L).toArray := ⟨_, rfl⟩
  have p4z : Arr (w1.alloc (.cells #[.int .i64 0, .int .i64 0, .int .i64 0, .int .i64 0, .int .i64 0, .int .i64 0, .int .i64 0, .int .i64 0, .int .i64 0, .int .i64 0, .int .i64 0, .int .i64 0, .int .i64 0, .int .i64 0, .int .i64 0, .int .i64 0] 81)) w1.heap.size 81 (I64 Z16) := Arr.new w1 (I64 Z16) _
  have bA : Below w1.heap.size w1 (w1.alloc (.cells #[.int .i64 0, .int .i64 0, .int .i64 0, .int .i64 0, .int .i64 0, .int .i64 0, .int .i64 0, .int .i64 0, .int .i64 0, .int .i64 0, .int .i64 0, .int .i64 0, .int .i64 0, .int .i64 0, .int .i64 0, .int .i64 0] 81)) := (Below.refl _ _).alloc (Nat.le_refl _) _
  have EE : OP w V.drew w1.heap.size L := by
    have h0 := hV.lt
    have : OP w V w1.heap.size L := by
      rw [hVV]
      exact ⟨setRow_below (gB2.trans (bA.mono gB2.size)) _ _ gB2.size, (g2.kept bA).rowOther _ _ (by omega), p4z.row _, (gV2.kept bA).rowOther _ (by omega), h0⟩
    exact this.go (Below.refl _ _).drew
  obtain ⟨E, hE⟩ : ∃ E, E = w1.heap.size := ⟨_, rfl⟩
  have HV : Hid _ := hVV
  have HE : Hid _ := hE
  clear hVV g2 gB2 gV2 bA hE
  go_wp2_with (refine wpList_store_row rfl 81 _ _ rfl w1.heap.size (I64 L).toArray rfl rfl 81 _ p4z hil (by simp [hLl]) (by simp [Value.oneCell']) ?_)
  rw [← HV.out]
  rw [← HE.out] at EE hsz ⊢
  clear HV HE p4z
  refine wp_region_held_drew (S := fun W => W.rangeAt E 0 (I64 L) ∧ W.rangeAt 6 0 (I64 PL)) (by kernel_rfl) EE.all (fun hHeld => ?_)
  refine wpAnyH_take (i := 0) (oi := { dst := some 12, op := Op.load 81 (Operand.tmp 4), type := 81, pos := "l04_field.go:96", after := #[], guard := none }) (v := _) rfl (by kernel_rfl) (by kernel_rfl) (by kernel_rfl) (fun _ _ _ h => h) (yieldsIf_load_mid (by rfl) _ _ rfl _ _ rfl (I64 L) _ (fun _ h => h.1) hu rfl hill) (by assumption) ?_
  simp only [Act.put, List.setIfInBounds_toArray, List.set_cons_zero, List.set_cons_succ]
  refine wpAnyH_take (i := 1) (oi := { dst := some 13, op := Op.move (Operand.tmp 5), type := 4, pos := "l04_field.go:96", after := #[], guard := none }) (v := .bool ok) rfl (by kernel_rfl) (by kernel_rfl) (by kernel_rfl) (fun _ _ _ h => h) (.inl ⟨by rfl, fun _ _ => by rfl⟩) (by assumption) ?_
  simp only [Act.put, List.setIfInBounds_toArray, List.set_cons_zero, List.set_cons_succ]
  refine wpAnyH_take (i := 2) (oi := { dst := some 14, op := Op.move (Operand.tmp 13), type := 4, pos := "l04_field.go:96", after := #[{ on := 1, ground := Ground.data }], guard := none }) (v := .bool ok) rfl (by kernel_rfl) (by kernel_rfl) (by kernel_rfl) (fun _ _ _ h => h) (.inl ⟨by rfl, fun _ _ => by rfl⟩) (by assumption) ?_
  simp only [Act.put, List.setIfInBounds_toArray, List.set_cons_zero, List.set_cons_succ]
  cases ok with
  | true =>
    have HBL : Hid _ := HQ.out rfl
    have hrq : r = q := HR1.out rfl
    clear HQ HR1 HR0
    refine wpAnyH_take (i := 3) (oi := qJio0) (v := _) rfl (by kernel_rfl) (by kernel_rfl) (by kernel_rfl) (fun _ _ _ h => h) (yieldsIf_load_mid (by rfl) _ _ rfl _ _ rfl (I64 L) _ (fun _ h => h.1) hu rfl hill) (by assumption) ?_
    simp only [Act.put, List.setIfInBounds_toArray, List.set_cons_zero, List.set_cons_succ]
    refine wpAnyH_take (i := 4) (oi := qJio1) (v := _) rfl (by kernel_rfl) (by kernel_rfl) (by kernel_rfl) (fun _ _ _ h => h) (yieldsIf_load_mid (by rfl) _ _ rfl _ _ rfl (I64 PL) _ (fun _ h => h.2) hu rfl hip) (by assumption) ?_
    simp only [Act.put, List.setIfInBounds_toArray, List.set_cons_zero, List.set_cons_succ]
    refine wpAnyH_ready (rs := [5]) (by kernel_rfl) (by simp) (AllReadyH.cons (o := { dst := some 17, op := Op.call { callee := Callee.value (Operand.func 71), args := #[Operand.tmp 15, Operand.tmp 16], argTypes := #[81, 81] }, type := 4, pos := "l04_field.go:96", after := #[{ on := 3, ground := Ground.data }, { on := 4, ground := Ground.data }, { on := 2, ground := Ground.chain }, { on := 2, ground := Ground.guard }], guard := some (2, true) }) rfl (fun K hK => ?_) AllReadyH.nil)
    go_simp
    refine (HBL.out _).mono ?_
    rintro e w2 ⟨rfl, hb2⟩
    replace EE := EE.go hb2
    go_wp2_with fail
    refine hK.out _ _ EE.all (fun hHeld => ?_)
    clear hK K hb2
    refine wpAnyH_take (i := 6) (oi := qJio2) (v := .bool q) rfl (by kernel_rfl) (by kernel_rfl) (by kernel_rfl) (fun _ _ _ h => h) (.inl ⟨by rfl, fun _ _ => by rfl⟩) (by assumption) ?_
    simp only [Act.put, List.setIfInBounds_toArray, List.set_cons_zero, List.set_cons_succ]
    obtain ⟨hA5, hB5, hS5, hth⟩ := EE.put hLl (by omega)
    refine wpAnyH_ready (rs := [7]) (by kernel_rfl) (by simp) (AllReadyH.cons (o := qJio3) rfl (fun K hK => ?_) AllReadyH.nil)
    rw [if_pos (by rfl)]
    refine wp_store_mid _ _ _ rfl _ _ (I64 L).toArray rfl rfl hth hil (all_oneCell_toArray hone) ?_
    simp only [Act.put]
    refine hK.out _ _ hS5 (fun hHeld => ?_)
    clear hK K
    refine wpAnyH_ready (rs := [8]) (by kernel_rfl) (by simp) (AllReadyH.cons (o := { dst := some 3, op := Op.assign (Operand.tmp 18), type := 4, pos := "l04_field.go:96", after := #[{ on := 6, ground := Ground.data }, { on := 7, ground := Ground.chain }, { on := 0, ground := Ground.phase }, { on := 1, ground := Ground.phase }, { on := 2, ground := Ground.phase }, { on := 3, ground := Ground.phase }, { on := 4, ground := Ground.phase }, { on := 5, ground := Ground.phase }, { on := 6, ground := Ground.phase }, { on := 7, ground := Ground.phase }], guard := none }) rfl (fun K hK => ?_) AllReadyH.nil)
    go_simp
    refine hK.out _ _ hS5 (fun hHeld => ?_)
    clear hK K
    refine wpAnyH_done (by kernel_rfl) ?_ _
    go_wp2
    exact bodyPost_ret (results_row_tmp (v := .bool q) (cs := I64 L) rfl rfl rfl hA5 Tryd.underlying81 rfl hill) rfl ⟨by rw [hrq], hB5⟩
  | false =>
    have hrf : r = false := HR0.out rfl
    clear HQ HR1 HR0
    refine wpAnyH_take (i := 3) (oi := qJio0) (v := undef) rfl (by kernel_rfl) (by kernel_rfl) (by kernel_rfl) (fun _ _ _ h => h) (.inr ⟨by rfl, rfl⟩) (by assumption) ?_
    simp only [Act.put, List.setIfInBounds_toArray, List.set_cons_zero, List.set_cons_succ]
    refine wpAnyH_take (i := 4) (oi := qJio1) (v := undef) rfl (by kernel_rfl) (by kernel_rfl) (by kernel_rfl) (fun _ _ _ h => h) (.inr ⟨by rfl, rfl⟩) (by assumption) ?_
    simp only [Act.put, List.setIfInBounds_toArray, List.set_cons_zero, List.set_cons_succ]
    refine wpAnyH_take (i := 5) (oi := { dst := some 17, op := Op.call { callee := Callee.value (Operand.func 71), args := #[Operand.tmp 15, Operand.tmp 16], argTypes := #[81, 81] }, type := 4, pos := "l04_field.go:96", after := #[{ on := 3, ground := Ground.data }, { on := 4, ground := Ground.data }, { on := 2, ground := Ground.chain }, { on := 2, ground := Ground.guard }], guard := some (2, true) }) (v := undef) rfl (by kernel_rfl) (by kernel_rfl) (by kernel_rfl) (fun _ _ _ h => h) (.inr ⟨by rfl, rfl⟩) (by assumption) ?_
    simp only [Act.put, List.setIfInBounds_toArray, List.set_cons_zero, List.set_cons_succ]
    refine wpAnyH_take (i := 6) (oi := qJio2) (v := .bool false) rfl (by kernel_rfl) (by kernel_rfl) (by kernel_rfl) (fun _ _ _ h => h) (.inl ⟨by rfl, fun _ _ => by rfl⟩) (by assumption) ?_
    simp only [Act.put, List.setIfInBounds_toArray, List.set_cons_zero, List.set_cons_succ]
    obtain ⟨hA5, hB5, hS5, hth⟩ := EE.put hLl (by omega)
    refine wpAnyH_ready (rs := [7]) (by kernel_rfl) (by simp) (AllReadyH.cons (o := qJio3) rfl (fun K hK => ?_) AllReadyH.nil)
    rw [if_pos (by rfl)]
    refine wp_store_mid _ _ _ rfl _ _ (I64 L).toArray rfl rfl hth hil (all_oneCell_toArray hone) ?_
    simp only [Act.put]
    refine hK.out _ _ hS5 (fun hHeld => ?_)
    clear hK K
    refine wpAnyH_ready (rs := [8]) (by kernel_rfl) (by simp) (AllReadyH.cons (o := { dst := some 3, op := Op.assign (Operand.tmp 18), type := 4, pos := "l04_field.go:96", after := #[{ on := 6, ground := Ground.data }, { on := 7, ground := Ground.chain }, { on := 0, ground := Ground.phase }, { on := 1, ground := Ground.phase }, { on := 2, ground := Ground.phase }, { on := 3, ground := Ground.phase }, { on := 4, ground := Ground.phase }, { on := 5, ground := Ground.phase }, { on := 6, ground := Ground.phase }, { on := 7, ground := Ground.phase }], guard := none }) rfl (fun K hK => ?_) AllReadyH.nil)
    go_simp
    refine hK.out _ _ hS5 (fun hHeld => ?_)
    clear hK K
    refine wpAnyH_done (by kernel_rfl) ?_ _
    go_wp2
    exact bodyPost_ret (results_row_tmp (v := .bool false) (cs := I64 L) rfl rfl rfl hA5 Tryd.underlying81 rfl hill) rfl ⟨by rw [hrf], hB5⟩

end Go.Proofs.YtihoaakbkffejaaDoor

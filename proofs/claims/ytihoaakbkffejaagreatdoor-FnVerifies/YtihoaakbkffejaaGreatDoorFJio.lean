/-
  What is proved here: contracts of the program's limbsOf, fieldOpen and FeOk: whether a slice of; contracts of the program's onCurve and pointOpen: whether two lists are a; what the program makes of points in its own long form are the; bounds of the lists of an answer that is a point; the contract of the program's PtOk; the contract of the laws' sameInts at two equal slices; the contract of the laws' samePt on two points that are equal.
-/
import Derived.Test.YtihoaakbkffejaaGreatDoorFJd
import Derived.Test.YtihoaakbkffejaaGreatDoorFJg
import Derived.Test.YtihoaakbkffejaaGreatDoorFOa
import Derived.Test.YtihoaakbkffejaaGreatDoorFUff
import Derived.Test.YtihoaakbkffejaaGreatDoorFJn
import Derived.Test.YtihoaakbkffejaaGreatDoorFTm
import Derived.Test.YtihoaakbkffejaaGreatDoorFUc
import Derived.Test.YtihoaakbkffejaaGreatDoorFFm
namespace Go.Proofs.YtihoaakbkffejaaGreatDoor
open Go.RowKit
set_option maxRecDepth 100000
abbrev qJio0 : Oper := { dst := some 15, op := Op.load 65 (Operand.tmp 4), type := 65, pos := "l04_field.go:96", after := #[{ on := 2, ground := Ground.guard }], guard := some (2, true) }
abbrev qJio1 : Oper := { dst := some 16, op := Op.load 65 (Operand.global 4), type := 65, pos := "l04_field.go:96", after := #[{ on := 2, ground := Ground.guard }], guard := some (2, true) }
abbrev qJio2 : Oper := { dst := some 18, op := Op.pick (Operand.tmp 14) (Operand.tmp 17) (Operand.const (Value.bool false)), type := 4, pos := "l04_field.go:96", after := #[{ on := 2, ground := Ground.data }, { on := 5, ground := Ground.data }, { on := 7, ground := Ground.gcOnly Departure.lateStores }], guard := none }
abbrev qJio3 : Oper := { dst := none, op := Op.store 65 (Operand.tmp 2) (Operand.tmp 12), type := 0, pos := "l04_field.go:96", after := #[{ on := 0, ground := Ground.data }, { on := 5, ground := Ground.chain }, { on := 0, ground := Ground.phase }, { on := 1, ground := Ground.textOnly Departure.lateStores }, { on := 2, ground := Ground.textOnly Departure.lateStores }, { on := 3, ground := Ground.textOnly Departure.lateStores }, { on := 4, ground := Ground.textOnly Departure.lateStores }, { on := 5, ground := Ground.textOnly Departure.lateStoresUnsure }, { on := 6, ground := Ground.textOnly Departure.lateStores }], guard := none }

theorem feOk_lm (l : List Int) : feOk l = (lmOk l && decide (val l < P25519)) := rfl
theorem lmL_of {l : List Int} (h : feOk l = true) : lmL l = l := by
 have : lmOk l = true := by rw [feOk_lm] at h; simp only [Bool.and_eq_true] at h; exact h.1
 unfold lmL
 rw [if_pos this]
structure OP (w W : World) (E : Nat) (l : List Int) : Prop where
 fr : Below w.heap.size w W
 pr : Arr W (w.heap.size + 1) 65 (I64 Z16)
 p4 : Arr W E 65 (I64 l)
 vr : Vr W 4 (I64 PL)
 g0 : 4 < w.heap.size
theorem OP.go {w A B : World} {E : Nat} {l : List Int} (h : OP w A E l) (hb : Below A.heap.size A B) : OP w B E l := ⟨h.fr.trans (hb.mono h.fr.size), h.pr.kept hb, h.p4.kept hb, h.vr.kept hb, h.g0⟩
theorem OP.all {w W : World} {E : Nat} {l : List Int} (h : OP w W E l) : W.rangeAt E 0 (I64 l) ∧ W.rangeAt 4 0 (I64 PL) := ⟨arr_range h.p4, vr_range h.vr⟩
theorem OP.put {w W : World} {E : Nat} {l : List Int} (h : OP w W E l) (hl : l.length = 16) (hE : E ≠ w.heap.size + 1) : Arr (W.setCells (w.heap.size + 1) 0 (I64 l)) (w.heap.size + 1) 65 (I64 l) ∧ Below w.heap.size w (W.setCells (w.heap.size + 1) 0 (I64 l)) ∧
  ((W.setCells (w.heap.size + 1) 0 (I64 l)).rangeAt E 0 (I64 l) ∧ (W.setCells (w.heap.size + 1) 0 (I64 l)).rangeAt 4 0 (I64 PL)) ∧ W.there (w.heap.size + 1) 0 (I64 l).toArray.size := by
 have h0 : 4 ≠ w.heap.size + 1 := by have := h.g0; omega
 exact ⟨Arr.setCells0 h.pr (by simp [hl]), setCells_below (by omega) _ _ h.fr, ⟨arr_range (Arr.setCellsO hE _ _ h.p4), vr_range (Vr.setCellsO h0 h.vr)⟩, by have := arr_there h.pr; simpa [hl] using this⟩

set_option maxHeartbeats 2000000 in
theorem implOpen (a : Option Addr) (n c : Nat) (xs : List Int) (w : World) (hx : Is w a n c xs) (hV : Vr w 4 (I64 PL)) :
  Calls Tryz.prog 84 #[.agg #[.slice a n c]] w fun e w' => e = .returned (.tuple #[.agg (I64 (lmL xs)).toArray, .bool (feOk xs)]) ∧ Below w.heap.size w w' := by
 obtain ⟨W, hW⟩ : ∃ W, W = (w.alloc (.cells #[.slice a n c] 31)).alloc (.cells zV 65) := ⟨_, rfl⟩
 have g1 : Arr W (w.heap.size + 1) 65 (I64 Z16) := by
  rw [hW]
  have := Arr.new (w.alloc (.cells #[.slice a n c] 31)) (I64 Z16) 65
  rw [World.size_alloc] at this
  exact this
 have gB : Below w.heap.size w W := by rw [hW]; exact ((Below.refl _ _).alloc (Nat.le_refl _) _).alloc (by simp) _
 have HLO := implLimbsOf a n c xs W (hx.below gB)
 have gV := hV.kept gB
 have hLl := lmL_len xs
 obtain ⟨q, hq⟩ : ∃ q, q = decide (val (lmL xs) < P25519) := ⟨_, rfl⟩
 have HQ : Hid (lmOk xs = true → ∀ Z, Calls Tryz.prog 97 #[.agg (I64 (lmL xs)).toArray, .agg (I64 PL).toArray] Z fun e w' => e = .returned (.bool q) ∧ Below Z.heap.size Z w') := by
  unfold Hid; intro h Z
  have e : lmL xs = xs := by unfold lmL; rw [if_pos h]
  have h2 := (lmOk_iff xs).1 h
  have := implBelow (lmL xs) PL Z hLl PL_len (by rw [e]; exact h2.2) PL_lm
  rw [PL_val, ← hq] at this
  exact this
 have HR1 : Hid (lmOk xs = true → feOk xs = q) := by
  unfold Hid; intro h
  have e : lmL xs = xs := by unfold lmL; rw [if_pos h]
  rw [hq, e, feOk_lm, h]; rfl
 have HR0 : Hid (lmOk xs = false → feOk xs = false) := by unfold Hid; intro h; rw [feOk_lm, h]; rfl
 obtain ⟨L, hL⟩ : ∃ L, L = lmL xs := ⟨_, rfl⟩
 obtain ⟨ok, hok⟩ : ∃ ok, ok = lmOk xs := ⟨_, rfl⟩
 obtain ⟨r, hr⟩ : ∃ r, r = feOk xs := ⟨_, rfl⟩
 rw [← hL] at HLO hLl HQ ⊢
 rw [← hok] at HLO HQ HR1 HR0
 rw [← hr] at HR1 HR0 ⊢
 have HLO' : Hid (Calls Tryz.prog 64 #[.slice a n c] W fun e w' => e = .returned (.tuple #[.agg (I64 L).toArray, .bool ok]) ∧ Below W.heap.size W w') := HLO
 clear HLO hL hok hr hq
 have hil : (Tryz.prog.info? 65).map (·.size) = some (I64 L).toArray.size := by simpa [hLl] using infoL
 have hill : (Tryz.prog.info? 65).map (·.size) = some (I64 L).length := by simpa [hLl] using infoL
 have hip : (Tryz.prog.info? 65).map (·.size) = some (I64 PL).length := infoL
 have hu : Tryz.prog.underlying 65 = some (.array 16 3) := Tryz.underlying65
 have hone := one_lm L
 go_enter Tryz.func84, Tryz.ntmps84
 go_wp2_with fail
 rw [← hW]
 refine HLO'.out.mono ?_
 rintro e w1 ⟨rfl, hb1⟩
 have g2 := g1.kept hb1
 have gB2 := gB.trans (hb1.mono gB.size)
 have gV2 := gV.kept hb1
 clear hW g1 gB gV hb1 HLO'
 have hsz := g2.lt
 obtain ⟨V, hVV⟩ : ∃ V, V = (w1.alloc (.cells zV 65)).setRow w1.heap.size (I64 L).toArray := ⟨_, rfl⟩
 have p4z : Arr (w1.alloc (.cells zV 65)) w1.heap.size 65 (I64 Z16) := Arr.new w1 (I64 Z16) _
 have bA : Below w1.heap.size w1 (w1.alloc (.cells zV 65)) := (Below.refl _ _).alloc (Nat.le_refl _) _
 have EE : OP w V.drew w1.heap.size L := by
  have h0 := hV.lt
  have : OP w V w1.heap.size L := by
   rw [hVV]
   exact ⟨setRow_below (gB2.trans (bA.mono gB2.size)) _ _ gB2.size, (g2.kept bA).rowOther _ _ (by omega), p4z.row _, (gV2.kept bA).rowOther _ (by omega), h0⟩
  exact this.go (Below.refl _ _).drew
 obtain ⟨E, hE⟩ : ∃ E, E = w1.heap.size := ⟨_, rfl⟩
 have HV : Hid _ := hVV
 have HE : Hid _ := hE
 clear hVV g2 gB2 gV2 bA hE
 go_wp2_with (refine wpList_store_row rfl 65 _ _ rfl w1.heap.size (I64 L).toArray rfl rfl 65 _ p4z hil (by simp [hLl]) (by simp [Value.oneCell']) ?_)
 rw [← HV.out]
 rw [← HE.out] at EE hsz ⊢
 clear HV HE p4z
 refine wp_region_held_drew (S := fun W => W.rangeAt E 0 (I64 L) ∧ W.rangeAt 4 0 (I64 PL)) (by kernel_rfl) EE.all (fun hHeld => ?_)
 refine wpAnyH_take (i := 0) (oi := { dst := some 12, op := Op.load 65 (Operand.tmp 4), type := 65, pos := "l04_field.go:96", after := #[], guard := none }) (v := _) rfl (by kernel_rfl) (by kernel_rfl) (by kernel_rfl) (fun _ _ _ h => h) (yieldsIf_load_mid (by rfl) _ _ rfl _ _ rfl (I64 L) _ (fun _ h => h.1) hu rfl hill) (by assumption) ?_
 simp only [aP]
 refine wpAnyH_take (i := 1) (oi := { dst := some 13, op := Op.move (Operand.tmp 5), type := 4, pos := "l04_field.go:96", after := #[], guard := none }) (v := .bool ok) rfl (by kernel_rfl) (by kernel_rfl) (by kernel_rfl) (fun _ _ _ h => h) (.inl ⟨by rfl, fun _ _ => by rfl⟩) (by assumption) ?_
 simp only [aP]
 refine wpAnyH_take (i := 2) (oi := { dst := some 14, op := Op.move (Operand.tmp 13), type := 4, pos := "l04_field.go:96", after := #[{ on := 1, ground := Ground.data }], guard := none }) (v := .bool ok) rfl (by kernel_rfl) (by kernel_rfl) (by kernel_rfl) (fun _ _ _ h => h) (.inl ⟨by rfl, fun _ _ => by rfl⟩) (by assumption) ?_
 simp only [aP]
 cases ok with
 | true =>
  have HBL : Hid _ := HQ.out rfl
  have hrq : r = q := HR1.out rfl
  clear HQ HR1 HR0
  refine wpAnyH_take (i := 3) (oi := qJio0) (v := _) rfl (by kernel_rfl) (by kernel_rfl) (by kernel_rfl) (fun _ _ _ h => h) (yieldsIf_load_mid (by rfl) _ _ rfl _ _ rfl (I64 L) _ (fun _ h => h.1) hu rfl hill) (by assumption) ?_
  simp only [aP]
  refine wpAnyH_take (i := 4) (oi := qJio1) (v := _) rfl (by kernel_rfl) (by kernel_rfl) (by kernel_rfl) (fun _ _ _ h => h) (yieldsIf_load_mid (by rfl) _ _ rfl _ _ rfl (I64 PL) _ (fun _ h => h.2) hu rfl hip) (by assumption) ?_
  simp only [aP]
  refine wpAnyH_ready (rs := [5]) (by kernel_rfl) (by simp) (AllReadyH.cons (o := { dst := some 17, op := Op.call { callee := Callee.value (Operand.func 97), args := #[Operand.tmp 15, Operand.tmp 16], argTypes := #[65, 65] }, type := 4, pos := "l04_field.go:96", after := #[{ on := 3, ground := Ground.data }, { on := 4, ground := Ground.data }, { on := 2, ground := Ground.chain }, { on := 2, ground := Ground.guard }], guard := some (2, true) }) rfl (fun K hK => ?_) AllReadyH.nil)
  go_simp
  refine (HBL.out _).mono ?_
  rintro e w2 ⟨rfl, hb2⟩
  replace EE := EE.go hb2
  go_wp2_with fail
  refine hK.out _ _ EE.all (fun hHeld => ?_)
  clear hK K hb2
  refine wpAnyH_take (i := 6) (oi := qJio2) (v := .bool q) rfl (by kernel_rfl) (by kernel_rfl) (by kernel_rfl) (fun _ _ _ h => h) (.inl ⟨by rfl, fun _ _ => by rfl⟩) (by assumption) ?_
  simp only [aP]
  obtain ⟨hA5, hB5, hS5, hth⟩ := EE.put hLl (by omega)
  refine wpAnyH_ready (rs := [7]) (by kernel_rfl) (by simp) (AllReadyH.cons (o := qJio3) rfl (fun K hK => ?_) AllReadyH.nil)
  rw [if_pos (by rfl)]
  refine wp_store_mid _ _ _ rfl _ _ (I64 L).toArray rfl rfl hth hil (all_oneCell_toArray hone) ?_
  simp only [Act.put]
  refine hK.out _ _ hS5 (fun hHeld => ?_)
  clear hK K
  refine wpAnyH_ready (rs := [8]) (by kernel_rfl) (by simp) (AllReadyH.cons (o := { dst := some 3, op := Op.assign (Operand.tmp 18), type := 4, pos := "l04_field.go:96", after := #[{ on := 6, ground := Ground.data }, { on := 7, ground := Ground.chain }, { on := 0, ground := Ground.phase }, { on := 1, ground := Ground.phase }, { on := 2, ground := Ground.phase }, { on := 3, ground := Ground.phase }, { on := 4, ground := Ground.phase }, { on := 5, ground := Ground.phase }, { on := 6, ground := Ground.phase }, { on := 7, ground := Ground.phase }], guard := none }) rfl (fun K hK => ?_) AllReadyH.nil)
  go_simp
  refine hK.out _ _ hS5 (fun hHeld => ?_)
  clear hK K
  refine wpAnyH_done (by kernel_rfl) ?_ _
  go_wp2
  exact bodyPost_ret (results_row_tmp (v := .bool q) (cs := I64 L) rfl rfl rfl hA5 Tryz.underlying65 rfl hill) rfl ⟨by rw [hrq], hB5⟩
 | false =>
  have hrf : r = false := HR0.out rfl
  clear HQ HR1 HR0
  refine wpAnyH_take (i := 3) (oi := qJio0) (v := undef) rfl (by kernel_rfl) (by kernel_rfl) (by kernel_rfl) (fun _ _ _ h => h) (.inr ⟨by rfl, rfl⟩) (by assumption) ?_
  simp only [aP]
  refine wpAnyH_take (i := 4) (oi := qJio1) (v := undef) rfl (by kernel_rfl) (by kernel_rfl) (by kernel_rfl) (fun _ _ _ h => h) (.inr ⟨by rfl, rfl⟩) (by assumption) ?_
  simp only [aP]
  refine wpAnyH_take (i := 5) (oi := { dst := some 17, op := Op.call { callee := Callee.value (Operand.func 97), args := #[Operand.tmp 15, Operand.tmp 16], argTypes := #[65, 65] }, type := 4, pos := "l04_field.go:96", after := #[{ on := 3, ground := Ground.data }, { on := 4, ground := Ground.data }, { on := 2, ground := Ground.chain }, { on := 2, ground := Ground.guard }], guard := some (2, true) }) (v := undef) rfl (by kernel_rfl) (by kernel_rfl) (by kernel_rfl) (fun _ _ _ h => h) (.inr ⟨by rfl, rfl⟩) (by assumption) ?_
  simp only [aP]
  refine wpAnyH_take (i := 6) (oi := qJio2) (v := .bool false) rfl (by kernel_rfl) (by kernel_rfl) (by kernel_rfl) (fun _ _ _ h => h) (.inl ⟨by rfl, fun _ _ => by rfl⟩) (by assumption) ?_
  simp only [aP]
  obtain ⟨hA5, hB5, hS5, hth⟩ := EE.put hLl (by omega)
  refine wpAnyH_ready (rs := [7]) (by kernel_rfl) (by simp) (AllReadyH.cons (o := qJio3) rfl (fun K hK => ?_) AllReadyH.nil)
  rw [if_pos (by rfl)]
  refine wp_store_mid _ _ _ rfl _ _ (I64 L).toArray rfl rfl hth hil (all_oneCell_toArray hone) ?_
  simp only [Act.put]
  refine hK.out _ _ hS5 (fun hHeld => ?_)
  clear hK K
  refine wpAnyH_ready (rs := [8]) (by kernel_rfl) (by simp) (AllReadyH.cons (o := { dst := some 3, op := Op.assign (Operand.tmp 18), type := 4, pos := "l04_field.go:96", after := #[{ on := 6, ground := Ground.data }, { on := 7, ground := Ground.chain }, { on := 0, ground := Ground.phase }, { on := 1, ground := Ground.phase }, { on := 2, ground := Ground.phase }, { on := 3, ground := Ground.phase }, { on := 4, ground := Ground.phase }, { on := 5, ground := Ground.phase }, { on := 6, ground := Ground.phase }, { on := 7, ground := Ground.phase }], guard := none }) rfl (fun K hK => ?_) AllReadyH.nil)
  go_simp
  refine hK.out _ _ hS5 (fun hHeld => ?_)
  clear hK K
  refine wpAnyH_done (by kernel_rfl) ?_ _
  go_wp2
  exact bodyPost_ret (results_row_tmp (v := .bool false) (cs := I64 L) rfl rfl rfl hA5 Tryz.underlying65 rfl hill) rfl ⟨by rw [hrf], hB5⟩
set_option maxHeartbeats 8000000 in
theorem implOn (x y : List Int) (w : World) (hx : feOk x = true) (hy : feOk y = true) (hV : Vr w 4 (I64 PL)) (hD : Vr w 5 (I64 DL)) :
  Calls Tryz.prog 85 #[.agg (I64 x).toArray, .agg (I64 y).toArray] w fun e w' => e = .returned (.bool (onB x y)) ∧ Below w.heap.size w w' := by
 obtain ⟨p, ep⟩ : ∃ x_, x_ = red (val x * val x) := ⟨_, rfl⟩
 have kp : feOk p = true := by rw [ep]; exact ok_red _
 obtain ⟨q, eq⟩ : ∃ x_, x_ = red (val y * val y) := ⟨_, rfl⟩
 have kq : feOk q = true := by rw [eq]; exact ok_red _
 obtain ⟨s1, es1⟩ : ∃ x_, x_ = red (val p * val q) := ⟨_, rfl⟩
 have ks1 : feOk s1 = true := by rw [es1]; exact ok_red _
 obtain ⟨t, et⟩ : ∃ x_, x_ = red (val DL * val s1) := ⟨_, rfl⟩
 have kt : feOk t = true := by rw [et]; exact ok_red _
 obtain ⟨r, er⟩ : ∃ x_, x_ = red (val q - val p) := ⟨_, rfl⟩
 have kr : feOk r = true := by rw [er]; exact ok_red _
 obtain ⟨v, ev⟩ : ∃ x_, x_ = red (val t + val (lim 16 1)) := ⟨_, rfl⟩
 have kv : feOk v = true := by rw [ev]; exact ok_red _
 have Hp : Hid (∀ Z, Vr Z 4 (I64 PL) → Calls Tryz.prog 98 #[.agg (I64 x).toArray, .agg (I64 x).toArray] Z fun e w' => e = .returned (.agg (I64 p).toArray) ∧ Below Z.heap.size Z w') := by
  unfold Hid; intro Z hZ; rw [ep]; exact mulI hx hx Z hZ
 have Hq : Hid (∀ Z, Vr Z 4 (I64 PL) → Calls Tryz.prog 98 #[.agg (I64 y).toArray, .agg (I64 y).toArray] Z fun e w' => e = .returned (.agg (I64 q).toArray) ∧ Below Z.heap.size Z w') := by
  unfold Hid; intro Z hZ; rw [eq]; exact mulI hy hy Z hZ
 have Hs1 : Hid (∀ Z, Vr Z 4 (I64 PL) → Calls Tryz.prog 98 #[.agg (I64 p).toArray, .agg (I64 q).toArray] Z fun e w' => e = .returned (.agg (I64 s1).toArray) ∧ Below Z.heap.size Z w') := by
  unfold Hid; intro Z hZ; rw [es1]; exact mulI kp kq Z hZ
 have Ht : Hid (∀ Z, Vr Z 4 (I64 PL) → Calls Tryz.prog 98 #[.agg (I64 DL).toArray, .agg (I64 s1).toArray] Z fun e w' => e = .returned (.agg (I64 t).toArray) ∧ Below Z.heap.size Z w') := by
  unfold Hid; intro Z hZ; rw [et]; exact mulI DL_ok ks1 Z hZ
 have Hr : Hid (∀ Z, Vr Z 4 (I64 PL) → Calls Tryz.prog 99 #[.agg (I64 q).toArray, .agg (I64 p).toArray] Z fun e w' => e = .returned (.agg (I64 r).toArray) ∧ Below Z.heap.size Z w') := by
  unfold Hid; intro Z hZ; rw [er]; exact subI kq kp Z hZ
 have Hv : Hid (∀ Z, Vr Z 4 (I64 PL) → Calls Tryz.prog 100 #[.agg (I64 t).toArray, .agg (I64 [1, 0, 0, 0, 0, 0, 0, 0, 0, 0, 0, 0, 0, 0, 0, 0]).toArray] Z fun e w' => e = .returned (.agg (I64 v).toArray) ∧ Below Z.heap.size Z w') := by
  unfold Hid; intro Z hZ; rw [ev, ← one_lim]; exact sumI kt one_ok Z hZ
 obtain ⟨b, eb⟩ : ∃ b, b = decide (r = v) := ⟨_, rfl⟩
 have hB : onB x y = b := by rw [eb]; unfold onB onL onR; rw [ev, Int.add_comm (val t), et, es1, er, eq, ep]
 have hq : ∀ Z, (Op.equalIn 10000 65 (.agg (I64 r).toArray) (.agg (I64 v).toArray)).run Tryz.prog Z = .ok b Z := by
  intro Z; rw [eb]; exact run_eqL r v Z (feOk_len kr) (feOk_len kv)
 rw [hB]
 have jx := infoL' hx
 have iix := infoLl hx
 have nx := feOk_len hx
 have ux := one_lm x
 have jy := infoL' hy
 have iiy := infoLl hy
 have ny := feOk_len hy
 have uy := one_lm y
 have jp := infoL' kp
 have iip := infoLl kp
 have np := feOk_len kp
 have up := one_lm p
 have jq := infoL' kq
 have iiq := infoLl kq
 have nq := feOk_len kq
 have uq := one_lm q
 have jt := infoL' kt
 have iit := infoLl kt
 have nt := feOk_len kt
 have ut := one_lm t
 have iDL := infoLl DL_ok
 have hu : Tryz.prog.underlying 65 = some (.array 16 3) := Tryz.underlying65
 obtain ⟨A0, hA0⟩ : ∃ A, A = (I64 x).toArray := ⟨_, rfl⟩
 obtain ⟨A1, hA1⟩ : ∃ A, A = (I64 y).toArray := ⟨_, rfl⟩
 obtain ⟨W, hW⟩ : ∃ W, W = (w.alloc (.cells A0 65)).alloc (.cells A1 65) := ⟨_, rfl⟩
 have fr : Below w.heap.size w W := by rw [hW]; exact (((Below.refl _ _).alloc (Nat.le_refl _) _).alloc (by simp) _)
 have pa : Arr W w.heap.size 65 (I64 x) := by
  rw [hW, hA0, hA1]
  have := (Arr.new (w) (I64 x) 65).alloc (.cells (I64 y).toArray 65)
  exact this
 have pb : Arr W (w.heap.size + 1) 65 (I64 y) := by
  rw [hW, hA0, hA1]
  have := Arr.new (w.alloc (.cells (I64 x).toArray 65)) (I64 y) 65
  rw [World.size_alloc] at this
  exact this
 have h0P := hV.lt
 have vP := hV.kept fr
 have h0D := hD.lt
 have vD := hD.kept fr
 rw [← hA0, ← hA1]
 clear hA0 hA1
 clear hV hD
 clear hB eb ev kv hx hy ep kp eq kq es1 ks1 et kt er kr
 go_enter Tryz.func85, Tryz.ntmps85
 go_upto_region 1 with fail
 rw [← hW]
 clear hW
 try simp only [Act.put]
 refine tame [kc 8 (.agg (I64 x).toArray), kc 9 (.agg (I64 x).toArray), kc 10 (.agg (I64 p).toArray), kc 11 (.agg (I64 y).toArray), kc 12 (.agg (I64 y).toArray), kc 13 (.agg (I64 q).toArray), ka 5 65 (I64 Z16), ka 6 65 (I64 Z16)] 8 (by kernel_rfl) (by kernel_rfl) (by kernel_rfl) (by repeat' first | exact trivial | apply kc_keeps | apply ka_keeps | constructor) 2 (by kernel_rfl) (fun vv1 ll1 hh1 yW b => ?_) (fun vv1 ll1 hh1 yW b F ivh aph => ?_)
 ·skip
  replace fr := fr.trans (b.mono fr.size)
  replace pa := pa.kept b
  replace pb := pb.kept b
  replace vP := vP.kept b
  replace vD := vD.kept b
  exact ⟨tl (arr_range pa) iix hu (by kernel_rfl),
   tl (arr_range pa) iix hu (by kernel_rfl),
   tc (Hp.out _ vP) (by kernel_rfl),
   tl (arr_range pb) iiy hu (by kernel_rfl),
   tl (arr_range pb) iiy hu (by kernel_rfl),
   tc (Hq.out _ vP) (by kernel_rfl),
   ta (by kernel_rfl),
   ta (by kernel_rfl), trivial⟩
 obtain ⟨y1, hy⟩ : ∃ z, z = yW := ⟨_, rfl⟩
 rw [← hy] at b F ivh ⊢
 clear hy
 have oq : w.heap.size < W.heap.size ∧ (w.heap.size + 1) < W.heap.size ∧ w.heap.size ≤ W.heap.size := ⟨pa.lt, pb.lt, fr.size⟩
 replace fr := fr.trans (b.mono fr.size)
 replace pa := pa.kept b
 replace pb := pb.kept b
 replace vP := vP.kept b
 replace vD := vD.kept b
 obtain ⟨-, -, -, -, -, -, ⟨Ap, gXp⟩, ⟨Aq, gXq⟩, -⟩ := F
 have iXp := ivh 6 (by decide)
 have iXq := ivh 7 (by decide)
 have pXpXq := aph 6 7 (by decide) (by decide) (by decide)
 replace Ap : Arr y1 (ll1 6) 65 (I64 Z16) := Ap
 replace gXp : ll1 6 < hh1 6 := gXp
 have lXp := Ap.lt
 replace Aq : Arr y1 (ll1 7) 65 (I64 Z16) := Aq
 replace gXq : ll1 7 < hh1 7 := gXq
 have lXq := Aq.lt
 refine st_row (i := 8) (by kernel_rfl) rfl rfl rfl rfl Ap (by kernel_rfl) (by kernel_rfl) (by simp [np]) jp up ?_
 replace fr := bel_sc fr (ll1 6) (I64 p) (by omega)
 replace pa := pa.sc (ll1 6) (I64 p) (by omega)
 replace pb := pb.sc (ll1 6) (I64 p) (by omega)
 replace vP := vP.sc (ll1 6) (I64 p) (by omega)
 replace vD := vD.sc (ll1 6) (I64 p) (by omega)
 replace Ap := Ap.sc0 (I64 p) (by simp [np])
 replace Aq := Aq.sc (ll1 6) (I64 p) (by omega)
 obtain ⟨V2, hVe⟩ : ∃ V, V = y1.setCells (ll1 6) 0 (I64 p) := ⟨_, rfl⟩
 rw [← hVe] at fr pa pb vP vD Ap Aq ⊢
 clear hVe
 refine st_row (i := 9) (by kernel_rfl) rfl rfl rfl rfl Aq (by kernel_rfl) (by kernel_rfl) (by simp [nq]) jq uq ?_
 replace fr := bel_sc fr (ll1 7) (I64 q) (by omega)
 replace pa := pa.sc (ll1 7) (I64 q) (by omega)
 replace pb := pb.sc (ll1 7) (I64 q) (by omega)
 replace vP := vP.sc (ll1 7) (I64 q) (by omega)
 replace vD := vD.sc (ll1 7) (I64 q) (by omega)
 replace Ap := Ap.sc (ll1 7) (I64 q) (by omega)
 replace Aq := Aq.sc0 (I64 q) (by simp [nq])
 obtain ⟨V3, hVe⟩ : ∃ V, V = V2.setCells (ll1 7) 0 (I64 q) := ⟨_, rfl⟩
 rw [← hVe] at fr pa pb vP vD Ap Aq ⊢
 clear hVe
 refine wpAny_done (by kernel_rfl) ?_ _
 simp only [fillK, putT, List.setIfInBounds_toArray, List.set_cons_zero, List.set_cons_succ]
 have qXp : w.heap.size < ll1 6 ∧ (w.heap.size + 1) < ll1 6 ∧ w.heap.size ≤ ll1 6 := by omega
 have qXq : w.heap.size < ll1 7 ∧ (w.heap.size + 1) < ll1 7 ∧ w.heap.size ≤ ll1 7 ∧ ll1 6 ≠ ll1 7 := by omega
 clear iXp gXp lXp iXq gXq lXq pXpXq
 generalize ll1 6 = Xp at *
 generalize ll1 7 = Xq at *
 clear ivh aph b oq
 go_wp2
 clear pa
 clear pb
 try simp only [Act.put]
 refine tame [kc 14 (.agg (I64 DL).toArray), kc 15 (.agg (I64 p).toArray), kc 16 (.agg (I64 q).toArray), kc 17 (.agg (I64 s1).toArray), kc 18 (.agg (I64 t).toArray), ka 7 65 (I64 Z16)] 6 (by kernel_rfl) (by kernel_rfl) (by kernel_rfl) (by repeat' first | exact trivial | apply kc_keeps | apply ka_keeps | constructor) 1 (by kernel_rfl) (fun vv2 ll2 hh2 yW b => ?_) (fun vv2 ll2 hh2 yW b F ivh aph => ?_)
 ·skip
  replace fr := fr.trans (b.mono fr.size)
  replace vP := vP.kept b
  replace vD := vD.kept b
  replace Ap := Ap.kept b
  replace Aq := Aq.kept b
  exact ⟨tl (vr_range vD) iDL hu (by kernel_rfl),
   tl (arr_range Ap) iip hu (by kernel_rfl),
   tl (arr_range Aq) iiq hu (by kernel_rfl),
   tc (Hs1.out _ vP) (by kernel_rfl),
   tc (Ht.out _ vP) (by kernel_rfl),
   ta (by kernel_rfl), trivial⟩
 obtain ⟨y4, hy⟩ : ∃ z, z = yW := ⟨_, rfl⟩
 rw [← hy] at b F ivh ⊢
 clear hy
 have oq : Xp < V3.heap.size ∧ Xq < V3.heap.size ∧ w.heap.size ≤ V3.heap.size := ⟨Ap.lt, Aq.lt, fr.size⟩
 replace fr := fr.trans (b.mono fr.size)
 replace vP := vP.kept b
 replace vD := vD.kept b
 replace Ap := Ap.kept b
 replace Aq := Aq.kept b
 obtain ⟨-, -, -, -, -, ⟨At, gXt⟩, -⟩ := F
 have iXt := ivh 5 (by decide)
 replace At : Arr y4 (ll2 5) 65 (I64 Z16) := At
 replace gXt : ll2 5 < hh2 5 := gXt
 have lXt := At.lt
 refine st_row (i := 6) (by kernel_rfl) rfl rfl rfl rfl At (by kernel_rfl) (by kernel_rfl) (by simp [nt]) jt ut ?_
 replace fr := bel_sc fr (ll2 5) (I64 t) (by omega)
 replace vP := vP.sc (ll2 5) (I64 t) (by omega)
 replace vD := vD.sc (ll2 5) (I64 t) (by omega)
 replace Ap := Ap.sc (ll2 5) (I64 t) (by omega)
 replace Aq := Aq.sc (ll2 5) (I64 t) (by omega)
 replace At := At.sc0 (I64 t) (by simp [nt])
 obtain ⟨V5, hVe⟩ : ∃ V, V = y4.setCells (ll2 5) 0 (I64 t) := ⟨_, rfl⟩
 rw [← hVe] at fr vP vD Ap Aq At ⊢
 clear hVe
 refine wpAny_done (by kernel_rfl) ?_ _
 simp only [fillK, putT, List.setIfInBounds_toArray, List.set_cons_zero, List.set_cons_succ]
 have qXt : Xp < ll2 5 ∧ Xq < ll2 5 ∧ w.heap.size ≤ ll2 5 := by omega
 clear iXt gXt lXt
 generalize ll2 5 = Xt at *
 clear ivh aph b oq
 go_wp2
 try simp only [Act.put]
 refine tame [kc 19 (.agg (I64 q).toArray), kc 20 (.agg (I64 p).toArray), kc 21 (.agg (I64 r).toArray), kc 22 (.agg (I64 t).toArray), kc 23 (.agg (I64 [1, 0, 0, 0, 0, 0, 0, 0, 0, 0, 0, 0, 0, 0, 0, 0]).toArray), kc 24 (.agg (I64 v).toArray), kc 25 (.bool b), kc 4 (.bool b)] 8 (by kernel_rfl) (by kernel_rfl) (by kernel_rfl) (by repeat' first | exact trivial | apply kc_keeps | apply ka_keeps | constructor) 0 (by kernel_rfl) (fun vv3 ll3 hh3 yW b => ?_) (fun vv3 ll3 hh3 yW b F ivh aph => ?_)
 ·skip
  replace fr := fr.trans (b.mono fr.size)
  replace vP := vP.kept b
  replace vD := vD.kept b
  replace Ap := Ap.kept b
  replace Aq := Aq.kept b
  replace At := At.kept b
  exact ⟨tl (arr_range Aq) iiq hu (by kernel_rfl),
   tl (arr_range Ap) iip hu (by kernel_rfl),
   tc (Hr.out _ vP) (by kernel_rfl),
   tl (arr_range At) iit hu (by kernel_rfl),
   tp (by kernel_rfl),
   tc (Hv.out _ vP) (by kernel_rfl),
   tp (by have hq := hq yW; simp only [fillK, putT, List.setIfInBounds_toArray, List.set_cons_zero, List.set_cons_succ]; unfold execOp; go_simp),
   tp (by kernel_rfl), trivial⟩
 obtain ⟨y6, hy⟩ : ∃ z, z = yW := ⟨_, rfl⟩
 rw [← hy] at b F ivh ⊢
 clear hy
 replace fr := fr.trans (b.mono fr.size)
 replace vP := vP.kept b
 replace vD := vD.kept b
 replace Ap := Ap.kept b
 replace Aq := Aq.kept b
 replace At := At.kept b
 clear F
 refine wpAny_done (by kernel_rfl) ?_ _
 simp only [fillK, putT, List.setIfInBounds_toArray, List.set_cons_zero, List.set_cons_succ]
 clear ivh aph b
 go_wp2
 go_ret
 exact ⟨rfl, fr⟩

def opL (xs ys : List Int) : List Int := if ptOk xs ys = true then (mk6 xs ys).cells else Z64
theorem opL_len (xs ys : List Int) : (opL xs ys).length = 64 := by
 unfold opL
 split
 ·rename_i h
  obtain ⟨h1, h2, _⟩ := (ptOk_iff xs ys).1 h
  exact E4.len (mk6_ok h1 h2)
 ·rfl
theorem built_zero (w : World) : (Instr.build 67 #[]).run Tryz.prog w = .ok (.agg (I64 Z64).toArray) w := by kernel_rfl

set_option maxHeartbeats 8000000 in
theorem implPtOpen (a : Option Addr) (n c : Nat) (xs : List Int) (b : Option Addr) (m d : Nat) (ys : List Int) (w : World) (hx : Is w a n c xs) (hy : Is w b m d ys) (hV : Vr w 4 (I64 PL)) (hD : Vr w 5 (I64 DL)) :
  Calls Tryz.prog 41 #[.agg #[.slice a n c, .slice b m d]] w fun e w' => e = .returned (.tuple #[.agg (I64 (opL xs ys)).toArray, .bool (ptOk xs ys)]) ∧ Below w.heap.size w w' := by
 obtain ⟨lx, hlx⟩ : ∃ l, l = lmL xs := ⟨_, rfl⟩
 obtain ⟨ly, hly⟩ : ∃ l, l = lmL ys := ⟨_, rfl⟩
 obtain ⟨p, hp⟩ : ∃ p, p = feOk xs := ⟨_, rfl⟩
 obtain ⟨q, hq⟩ : ∃ q, q = feOk ys := ⟨_, rfl⟩
 obtain ⟨t, ht⟩ : ∃ t, t = onB xs ys := ⟨_, rfl⟩
 have Hx : Hid (∀ Z, Below w.heap.size w Z → Vr Z 4 (I64 PL) → Calls Tryz.prog 84 #[.agg #[.slice a n c]] Z fun e w' => e = .returned (.tuple #[.agg (I64 lx).toArray, .bool p]) ∧ Below Z.heap.size Z w') := by
  unfold Hid; intro Z hZ hVZ; rw [hlx, hp]; exact implOpen a n c xs Z (hx.below hZ) hVZ
 have nx : lx.length = 16 := by rw [hlx]; exact lmL_len xs
 have Hy : Hid (∀ Z, Below w.heap.size w Z → Vr Z 4 (I64 PL) → Calls Tryz.prog 84 #[.agg #[.slice b m d]] Z fun e w' => e = .returned (.tuple #[.agg (I64 ly).toArray, .bool q]) ∧ Below Z.heap.size Z w') := by
  unfold Hid; intro Z hZ hVZ; rw [hly, hq]; exact implOpen b m d ys Z (hy.below hZ) hVZ
 have ny : ly.length = 16 := by rw [hly]; exact lmL_len ys
 have Ho : Hid (p = true → q = true → ∀ Z, Vr Z 4 (I64 PL) → Vr Z 5 (I64 DL) → Calls Tryz.prog 85 #[.agg (I64 lx).toArray, .agg (I64 ly).toArray] Z fun e w' => e = .returned (.bool t) ∧ Below Z.heap.size Z w') := by
  unfold Hid; intro h1 h2 Z hZ hZ2; rw [hp] at h1; rw [hq] at h2; rw [hlx, hly, ht, lmL_of h1, lmL_of h2]; exact implOn xs ys Z h1 h2 hZ hZ2
 obtain ⟨P, hPe⟩ : ∃ P, P = mk6 lx ly := ⟨_, rfl⟩
 have HPo : Hid (p = true → q = true → P.Ok) := by
  unfold Hid; intro h1 h2; rw [hp] at h1; rw [hq] at h2; rw [hPe, hlx, hly, lmL_of h1, lmL_of h2]; exact mk6_ok h1 h2
 have HM : Hid (p = true → q = true → ∀ Z, Vr Z 4 (I64 PL) → Calls Tryz.prog 67 #[.agg (I64 lx).toArray, .agg (I64 ly).toArray] Z fun e w' => e = .returned (.agg (I64 P.cells).toArray) ∧ Below Z.heap.size Z w') := by
  unfold Hid; intro h1 h2 Z hZ; rw [hp] at h1; rw [hq] at h2; rw [hPe, hlx, hly, lmL_of h1, lmL_of h2]; exact implLongAt xs ys Z h1 h2 hZ
 obtain ⟨R, hR⟩ : ∃ r, r = ptOk xs ys := ⟨_, rfl⟩
 obtain ⟨L, hL⟩ : ∃ l, l = opL xs ys := ⟨_, rfl⟩
 have HR : Hid (R = (p && q && t)) := by unfold Hid; rw [hR, hp, hq, ht]; rfl
 have HL0 : Hid (R = false → L = Z64) := by unfold Hid; intro h; rw [hL]; unfold opL; rw [← hR, h]; rfl
 have HL1 : Hid (R = true → L = P.cells) := by
  unfold Hid; intro h; rw [hL]; unfold opL; rw [← hR, if_pos h, hPe, hlx, hly]
  rw [hR] at h; obtain ⟨h1, h2, _⟩ := (ptOk_iff xs ys).1 h; rw [lmL_of h1, lmL_of h2]
 rw [← hR, ← hL]
 have jx : (Tryz.prog.info? 65).map (·.size) = some (I64 lx).toArray.size := by simpa [nx] using infoL
 have jy : (Tryz.prog.info? 65).map (·.size) = some (I64 ly).toArray.size := by simpa [ny] using infoL
 have hz : (Tryz.prog.info? 67).map (·.size) = some (I64 Z64).toArray.size := infoLp
 have hbz := built_zero
 have hu : Tryz.prog.underlying 65 = some (.array 16 3) := Tryz.underlying65
 obtain ⟨W, hW⟩ : ∃ W, W = (w.alloc (.cells #[.slice a n c, .slice b m d] 33)).alloc (.cells #[.int .i64 0, .int .i64 0, .int .i64 0, .int .i64 0, .int .i64 0, .int .i64 0, .int .i64 0, .int .i64 0, .int .i64 0, .int .i64 0, .int .i64 0, .int .i64 0, .int .i64 0, .int .i64 0, .int .i64 0, .int .i64 0, .int .i64 0, .int .i64 0, .int .i64 0, .int .i64 0, .int .i64 0, .int .i64 0, .int .i64 0, .int .i64 0, .int .i64 0, .int .i64 0, .int .i64 0, .int .i64 0, .int .i64 0, .int .i64 0, .int .i64 0, .int .i64 0, .int .i64 0, .int .i64 0, .int .i64 0, .int .i64 0, .int .i64 0, .int .i64 0, .int .i64 0, .int .i64 0, .int .i64 0, .int .i64 0, .int .i64 0, .int .i64 0, .int .i64 0, .int .i64 0, .int .i64 0, .int .i64 0, .int .i64 0, .int .i64 0, .int .i64 0, .int .i64 0, .int .i64 0, .int .i64 0, .int .i64 0, .int .i64 0, .int .i64 0, .int .i64 0, .int .i64 0, .int .i64 0, .int .i64 0, .int .i64 0, .int .i64 0, .int .i64 0] 67) := ⟨_, rfl⟩
 have fr : Below w.heap.size w W := by rw [hW]; exact (((Below.refl _ _).alloc (Nat.le_refl _) _).alloc (by simp) _)
 have pa : Arr W w.heap.size 33 ([.slice a n c, .slice b m d]) := by
  rw [hW]
  have := (Arr.new (w) ([.slice a n c, .slice b m d]) 33).alloc (.cells #[.int .i64 0, .int .i64 0, .int .i64 0, .int .i64 0, .int .i64 0, .int .i64 0, .int .i64 0, .int .i64 0, .int .i64 0, .int .i64 0, .int .i64 0, .int .i64 0, .int .i64 0, .int .i64 0, .int .i64 0, .int .i64 0, .int .i64 0, .int .i64 0, .int .i64 0, .int .i64 0, .int .i64 0, .int .i64 0, .int .i64 0, .int .i64 0, .int .i64 0, .int .i64 0, .int .i64 0, .int .i64 0, .int .i64 0, .int .i64 0, .int .i64 0, .int .i64 0, .int .i64 0, .int .i64 0, .int .i64 0, .int .i64 0, .int .i64 0, .int .i64 0, .int .i64 0, .int .i64 0, .int .i64 0, .int .i64 0, .int .i64 0, .int .i64 0, .int .i64 0, .int .i64 0, .int .i64 0, .int .i64 0, .int .i64 0, .int .i64 0, .int .i64 0, .int .i64 0, .int .i64 0, .int .i64 0, .int .i64 0, .int .i64 0, .int .i64 0, .int .i64 0, .int .i64 0, .int .i64 0, .int .i64 0, .int .i64 0, .int .i64 0, .int .i64 0] 67)
  exact this
 have pr : Arr W (w.heap.size + 1) 67 (I64 Z64) := by
  rw [hW]
  have := Arr.new (w.alloc (.cells #[.slice a n c, .slice b m d] 33)) (I64 Z64) 67
  rw [World.size_alloc] at this
  exact this
 have h0P := hV.lt
 have vP := hV.kept fr
 have h0D := hD.lt
 have vD := hD.kept fr
 clear hV hD
 clear hR hL hPe hp hq ht hlx hly hx hy
 go_enter Tryz.func41, Tryz.ntmps41
 go_upto_region 1 with fail
 rw [← hW]
 clear hW
 have c0 : W.cell? ⟨w.heap.size, 0, none⟩ = some (.slice a n c) := pa.cell 0
 go_wp2_with fail
 clear c0
 refine (Hx.out _ fr vP).mono ?_
 rintro e y1 ⟨rfl, hb1⟩
 replace fr := fr.trans (hb1.mono fr.size)
 replace pa := pa.kept hb1
 replace pr := pr.kept hb1
 replace vP := vP.kept hb1
 replace vD := vD.kept hb1
 clear hb1
 have hXx : w.heap.size < y1.heap.size ∧ (w.heap.size + 1) < y1.heap.size ∧ w.heap.size ≤ y1.heap.size := ⟨pa.lt, pr.lt, fr.size⟩
 obtain ⟨bV, Ax, q1⟩ := laid_lm y1 lx
 replace fr := fr.trans (bV.mono fr.size)
 replace pa := pa.kept bV
 replace pr := pr.kept bV
 replace vP := vP.kept bV
 replace vD := vD.kept bV
 go_upto_region 2 with (refine wpList_store_row rfl 65 _ _ rfl y1.heap.size (I64 lx).toArray rfl rfl 65 _ q1 jx (by simp [nx]) (by simp [Value.oneCell']) ?_)
 obtain ⟨V2, hVV⟩ : ∃ V, V = (y1.alloc (.cells zV 65)).setRow y1.heap.size (I64 lx).toArray := ⟨_, rfl⟩
 obtain ⟨Xx, hE⟩ : ∃ E, E = y1.heap.size := ⟨_, rfl⟩
 rw [← hVV] at fr pa pr vP vD Ax ⊢
 rw [← hE] at Ax hXx ⊢
 clear hVV hE q1 bV
 have c0 : V2.cell? ⟨w.heap.size, 1, none⟩ = some (.slice b m d) := pa.cell 1
 go_wp2_with fail
 clear c0
 refine (Hy.out _ fr vP).mono ?_
 rintro e y3 ⟨rfl, hb3⟩
 replace fr := fr.trans (hb3.mono fr.size)
 replace pa := pa.kept hb3
 replace pr := pr.kept hb3
 replace vP := vP.kept hb3
 replace vD := vD.kept hb3
 replace Ax := Ax.kept hb3
 clear hb3
 have hXy : w.heap.size < y3.heap.size ∧ (w.heap.size + 1) < y3.heap.size ∧ Xx < y3.heap.size ∧ w.heap.size ≤ y3.heap.size := ⟨pa.lt, pr.lt, Ax.lt, fr.size⟩
 obtain ⟨bV, Ay, q1⟩ := laid_lm y3 ly
 replace fr := fr.trans (bV.mono fr.size)
 replace pa := pa.kept bV
 replace pr := pr.kept bV
 replace vP := vP.kept bV
 replace vD := vD.kept bV
 replace Ax := Ax.kept bV
 go_upto_region 3 with (refine wpList_store_row rfl 65 _ _ rfl y3.heap.size (I64 ly).toArray rfl rfl 65 _ q1 jy (by simp [ny]) (by simp [Value.oneCell']) ?_)
 obtain ⟨V4, hVV⟩ : ∃ V, V = (y3.alloc (.cells zV 65)).setRow y3.heap.size (I64 ly).toArray := ⟨_, rfl⟩
 obtain ⟨Xy, hE⟩ : ∃ E, E = y3.heap.size := ⟨_, rfl⟩
 rw [← hVV] at fr pa pr vP vD Ax Ay ⊢
 rw [← hE] at Ay hXy ⊢
 clear hVV hE q1 bV
 cases p with
 | false =>
  have h2 := pr.row (I64 Z64)
  have HB : Hid _ := setRow_below fr (w.heap.size + 1) (I64 Z64).toArray (by omega)
  have hRf : Hid (R = false) := by unfold Hid; rw [HR.out]; simp
  have hLf : Hid (L = Z64) := HL0.out hRf.out
  go_wp2_with (refine wpList_store_row rfl 67 _ _ rfl (w.heap.size + 1) (I64 Z64).toArray rfl rfl 67 _ pr hz (by simp []) (by simp [Value.oneCell']) ?_)
  exact bodyPost_ret (results_row_tmp (v := .bool false) (cs := I64 Z64) rfl rfl rfl h2 Tryz.underlying67 rfl hz) rfl ⟨by rw [hLf.out, hRf.out], HB.out⟩
 | true =>
  cases q with
  | false =>
   have h2 := pr.row (I64 Z64)
   have HB : Hid _ := setRow_below fr (w.heap.size + 1) (I64 Z64).toArray (by omega)
   have hRf : Hid (R = false) := by unfold Hid; rw [HR.out]; simp
   have hLf : Hid (L = Z64) := HL0.out hRf.out
   go_wp2_with (refine wpList_store_row rfl 67 _ _ rfl (w.heap.size + 1) (I64 Z64).toArray rfl rfl 67 _ pr hz (by simp []) (by simp [Value.oneCell']) ?_)
   exact bodyPost_ret (results_row_tmp (v := .bool false) (cs := I64 Z64) rfl rfl rfl h2 Tryz.underlying67 rfl hz) rfl ⟨by rw [hLf.out, hRf.out], HB.out⟩
  | true =>
   go_wp2_with (first
     | (refine wpList_load_rowW rfl 65 _ rfl Xx rfl 65 (I64 lx).toArray (0, 0) _ Ax Tryz.underlying65 rfl jx ?_)
     | (refine wpList_load_rowW rfl 65 _ rfl Xy rfl 65 (I64 ly).toArray (0, 0) _ Ay Tryz.underlying65 rfl jy ?_))
   refine (Ho.out (by simp) (by simp) _ vP vD).mono ?_
   rintro e y5 ⟨rfl, hb5⟩
   replace fr := fr.trans (hb5.mono fr.size)
   replace pa := pa.kept hb5
   replace pr := pr.kept hb5
   replace vP := vP.kept hb5
   replace vD := vD.kept hb5
   replace Ax := Ax.kept hb5
   replace Ay := Ay.kept hb5
   clear hb5
   cases t with
   | false =>
    have h2 := pr.row (I64 Z64)
    have HB : Hid _ := setRow_below fr (w.heap.size + 1) (I64 Z64).toArray (by omega)
    have hRf : Hid (R = false) := by unfold Hid; rw [HR.out]; simp
    have hLf : Hid (L = Z64) := HL0.out hRf.out
    go_wp2_with (refine wpList_store_row rfl 67 _ _ rfl (w.heap.size + 1) (I64 Z64).toArray rfl rfl 67 _ pr hz (by simp []) (by simp [Value.oneCell']) ?_)
    exact bodyPost_ret (results_row_tmp (v := .bool false) (cs := I64 Z64) rfl rfl rfl h2 Tryz.underlying67 rfl hz) rfl ⟨by rw [hLf.out, hRf.out], HB.out⟩
   | true =>
    have hPo := HPo.out (by simp) (by simp)
    have hip := infoLp' hPo
    have hPl := E4.len hPo
    go_wp2_with (first
      | (refine wpList_load_row rfl 65 _ rfl Xx rfl 65 (I64 lx).toArray (0, 0) _ Ax Tryz.underlying65 rfl jx ?_)
      | (refine wpList_load_row rfl 65 _ rfl Xy rfl 65 (I64 ly).toArray (0, 0) _ Ay Tryz.underlying65 rfl jy ?_))
    refine (HM.out (by simp) (by simp) _ vP).mono ?_
    rintro e y6 ⟨rfl, hb6⟩
    replace fr := fr.trans (hb6.mono fr.size)
    replace pa := pa.kept hb6
    replace pr := pr.kept hb6
    replace vP := vP.kept hb6
    replace vD := vD.kept hb6
    replace Ax := Ax.kept hb6
    replace Ay := Ay.kept hb6
    clear hb6
    have h2 := pr.row (I64 P.cells)
    have HB : Hid _ := setRow_below fr (w.heap.size + 1) (I64 P.cells).toArray (by omega)
    have hRt : Hid (R = true) := by unfold Hid; rw [HR.out]; simp
    have hLt : Hid (L = P.cells) := HL1.out hRt.out
    go_wp2_with (refine wpList_store_row rfl 67 _ _ rfl (w.heap.size + 1) (I64 P.cells).toArray rfl rfl 67 _ pr hip (by simp [hPl]) (by simp [Value.oneCell']) ?_)
    exact bodyPost_ret (results_row_tmp (v := .bool true) (cs := I64 P.cells) rfl rfl rfl h2 Tryz.underlying67 rfl hip) rfl ⟨by rw [hLt.out, hRt.out], HB.out⟩
set_option maxHeartbeats 4000000

theorem neg_lists {xs ys : List Int} (h : ptOk xs ys = true) : flx (neg6 (mk6 xs ys)) = red (val (lim 16 0) - val xs) ∧ fly (neg6 (mk6 xs ys)) = ys := by
 haveI := nzP
 obtain ⟨h1, h2⟩ := pt_neg xs ys
 obtain ⟨_, h3⟩ := pt_cx h
 refine ⟨?_, ?_⟩
 ·rw [h1, ← cx_fl (ok_red (val (lim 16 0) - val xs)), fl_sub, fl_zero]
  rfl
 ·rw [h2]; exact h3
theorem add_lists {xs ys us vs : List Int} (h : ptOk xs ys = true) (k : ptOk us vs = true) : flx (join6 (mk6 xs ys) (mk6 us vs)) = flx (add6 (mk6 xs ys) (mk6 us vs)) ∧ fly (join6 (mk6 xs ys) (mk6 us vs)) = fly (add6 (mk6 xs ys) (mk6 us vs)) := by
 haveI := nzP
 obtain ⟨h1, h2⟩ := pt_add h k
 obtain ⟨h3, h4⟩ := ext6_flat (ext6_join (ext6_make xs ys) (ext6_make us vs) (pt_on h) (pt_on k))
 exact ⟨h3.trans h1.symm, h4.trans h2.symm⟩
theorem mul_lists {xs ys : List Int} (h : ptOk xs ys = true) (N : Nat) (hN : N < 2 ^ 253) : flx (jul6 (mk6 xs ys) N) = flx (mul6 (mk6 xs ys) N) ∧ fly (jul6 (mk6 xs ys) N) = fly (mul6 (mk6 xs ys) N) := by
 haveI := nzP
 obtain ⟨h1, h2⟩ := pt_mul h N (Nat.lt_trans hN (by decide))
 obtain ⟨h3, h4⟩ := ext6_flat (ext6_jul (ext6_make xs ys) (pt_on h) N hN)
 exact ⟨h3.trans h1.symm, h4.trans h2.symm⟩
theorem flat_mk {x y : List Int} (hx : feOk x = true) (hy : feOk y = true) : flx (mk6 x y) = x ∧ fly (mk6 x y) = y := by
 haveI := nzP
 obtain ⟨h1, h2⟩ := ext6_flat (ext6_make x y)
 exact ⟨h1.trans (cx_fl hx), h2.trans (cx_fl hy)⟩
set_option maxHeartbeats 400000 in
theorem sameIntsT (a a' : Option Addr) (n cap cap' : Nat) (xs : List Int) (w : World) (h : Is w a n cap xs) (h' : Is w a' n cap' xs) (hn : n ≤ 2097152) :
  Calls Tryz.prog 69 #[.slice a n cap, .slice a' n cap'] w fun e w' => ∃ q, e = .returned (.bool true) ∧ w' = w.drewN q := by
 obtain ⟨_, hl, hc, hby, h⟩ := h
 obtain ⟨_, _, hc', _, h'⟩ := h'
 have hne : ((n : Int) != (n : Int)) = false := by simp
 go_enter Tryz.func69, Tryz.ntmps69
 go_wp2
 go_loopw [5] (fun i wr => ∃ k q : Nat, k ≤ n ∧ i = .int .i64 k ∧ wr = w.drewN q) (fun i _ => n - (intOf i).toNat)
 case atStart => exact ⟨0, 0, Nat.zero_le _, rfl, rfl⟩
 case round =>
  obtain ⟨k, q, hk, rfl, rfl⟩ := hrel
  by_cases hlt : k < n
  ·rcases h with h | ⟨b, o, rfl, hbs, hcell⟩
   ·omega
   ·rcases h' with h' | ⟨b', o', rfl, hbs', hcell'⟩
    ·omega
    ·obtain ⟨x, hx⟩ : ∃ x, x = xs.getD k 0 := ⟨_, rfl⟩
     have hck : w.cell? ⟨b, o + k, none⟩ = some (.int .i64 x) := by rw [hx]; exact hcell k hlt
     have hck' : w.cell? ⟨b', o' + k, none⟩ = some (.int .i64 x) := by rw [hx]; exact hcell' k hlt
     have hxx : (x != x) = false := by simp
     have hlt' : (k : Int) < (n : Int) := by omega
     clear hcell hcell' hx
     go_wp2
     go_quiet (fail)
     go_wp2
     go_roundw
     case rel => exact ⟨k + 1, _, by omega, by go_num, rfl⟩
     case measure => simp [intOf]; omega
  ·go_wp2
   go_ret
   exact ⟨q, rfl, rfl⟩
set_option maxHeartbeats 1000000 in
theorem samePtC (a a' : Option Addr) (n c c' : Nat) (xs : List Int) (b b' : Option Addr) (m d d' : Nat) (ys : List Int) (w : World) (h : Is w a n c xs) (h' : Is w a' n c' xs) (g : Is w b m d ys) (g' : Is w b' m d' ys) (hn : n ≤ 2097152) (hm : m ≤ 2097152) :
  Calls Tryz.prog 21 #[.agg #[.slice a n c, .slice b m d], .agg #[.slice a' n c', .slice b' m d']] w fun e w' => e = .returned (.bool true) ∧ Below w.heap.size w w' := by
 obtain ⟨W, hW⟩ : ∃ W, W = (w.alloc (.cells #[.slice a n c, .slice b m d] 33)).alloc (.cells #[.slice a' n c', .slice b' m d'] 33) := ⟨_, rfl⟩
 have fr : Below w.heap.size w W := by rw [hW]; exact ((Below.refl _ _).alloc (Nat.le_refl _) _).alloc (by simp) _
 have pa : Arr W w.heap.size 33 [.slice a n c, .slice b m d] := by rw [hW]; exact (Arr.new w [.slice a n c, .slice b m d] _).alloc _
 have pb : Arr W (w.heap.size + 1) 33 [.slice a' n c', .slice b' m d'] := by
  rw [hW]
  have := Arr.new (w.alloc (.cells #[.slice a n c, .slice b m d] 33)) [.slice a' n c', .slice b' m d'] 33
  rw [World.size_alloc] at this
  exact this
 go_enter Tryz.func21, Tryz.ntmps21
 go_upto_region 1 with fail
 rw [← hW]
 clear hW
 have c0 : W.cell? ⟨w.heap.size, 0, none⟩ = some (.slice a n c) := pa.cell 0
 have d0 : W.cell? ⟨w.heap.size + 1, 0, none⟩ = some (.slice a' n c') := pb.cell 0
 go_wp2_with fail
 refine (sameIntsT a a' n c c' xs _ (h.below fr) (h'.below fr) hn).mono ?_
 rintro e w1 ⟨q1, rfl, hw1⟩
 have hb1 : Below W.heap.size W w1 := by rw [hw1]; exact bel_drewN _ _
 replace fr := fr.trans (hb1.mono fr.size)
 replace pa := pa.kept hb1
 replace pb := pb.kept hb1
 clear c0 d0 hb1 hw1
 have c1 : w1.cell? ⟨w.heap.size, 1, none⟩ = some (.slice b m d) := pa.cell 1
 have d1 : w1.cell? ⟨w.heap.size + 1, 1, none⟩ = some (.slice b' m d') := pb.cell 1
 go_wp2_with fail
 refine (sameIntsT b b' m d d' ys _ (g.below fr) (g'.below fr) hm).mono ?_
 rintro e w2 ⟨q2, rfl, hw2⟩
 have hb2 : Below w1.heap.size w1 w2 := by rw [hw2]; exact bel_drewN _ _
 replace fr := fr.trans (hb2.mono fr.size)
 clear c1 d1 hb2 pa pb hw2
 go_wp2
 go_ret
 exact ⟨rfl, fr⟩


end Go.Proofs.YtihoaakbkffejaaGreatDoor

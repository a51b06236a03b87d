/-
  What is proved here: the contract of the specification's l7sign; bytes as a string, and the contract of the library's bytes.Equal at slices; contracts of the specification's l4zero and l4eighth; the contract of the specification's l4root: the even root of a number of; lengths and bounds of a root; whether bytes are those of a point, and which, as plain functions of the; plain mathematics of a point's bytes: a point comes back from its bytes.
-/
import Derived.Test.YtihoaakbkffejaaGreatDoorFVn
import Derived.Test.YtihoaakbkffejaaGreatDoorFKe
import Derived.Test.YtihoaakbkffejaaGreatDoorFUff
import Derived.Test.YtihoaakbkffejaaGreatDoorFQk
import Derived.Test.YtihoaakbkffejaaGreatDoorFFm
import Derived.Laws.BytesArg
import Derived.Laws.Strings
import Derived.Test.YtihoaakbkffejaaGreatDoorFFsc
import Derived.ChangeKeysEq
import Derived.Test.YtihoaakbkffejaaGreatDoorFUd
import Derived.Test.YtihoaakbkffejaaGreatDoorFJg
import Derived.Test.YtihoaakbkffejaaGreatDoorFJio
import Derived.Test.YtihoaakbkffejaaGreatDoorFQd
import Derived.Test.YtihoaakbkffejaaGreatDoorFJn
namespace Go.Proofs.YtihoaakbkffejaaGreatDoor
open Go.RowKit
set_option maxRecDepth 100000

def sgR (seed msg : List Int) : List Int := mS ((sumOfW seed).drop 32 ++ msg)
def sgF (seed msg : List Int) : List Int := baseB (val (sgR seed msg)).toNat
def sgK (seed msg : List Int) : List Int := mS (sgF seed msg ++ baseB (val (sA seed)).toNat ++ msg)
def sgS (seed msg : List Int) : List Int := redO (val (sgR seed msg) + val (redO (val (sgK seed msg) * val (redO (val (sA seed))))))
def sgB (seed msg : List Int) : List Int := sgF seed msg ++ btL (sgS seed msg)
theorem mS_ok (xs : List Int) : scOk (mS xs) = true := redO_ok _
theorem sgB_len (seed msg : List Int) : (sgB seed msg).length = 64 := by
 unfold sgB sgF sgS
 rw [List.length_append, baseB_len, btL_len, redO_len]
theorem sgB_byte (seed msg : List Int) : ∀ x ∈ sgB seed msg, 0 ≤ x ∧ x < 256 := app_byte (baseB_byte _) (btL_byte (redO_lm _))
theorem specHash (a : Option Addr) (n c : Nat) (xs : List Int) (Z : World) (h : Bs Z a n c xs) (hn : n ≤ 20000) : Calls Tryz.prog 73 #[.slice a n c] Z fun e w' => ∃ a' c', e = .returned (.slice a' 64 c') ∧ Bs w' a' 64 c' (sumOfW xs) ∧ Below Z.heap.size Z w' := by
 refine (specL3sum a n c xs Z h hn).mono ?_
 rintro e w' ⟨v, rfl, ho, hb⟩
 obtain ⟨a', c', rfl, _, hB⟩ := Bs.own ho (sumOfW_byte _)
 exact ⟨a', c', rfl, hB, hb⟩

set_option maxHeartbeats 8000000 in
theorem specL7sign (a : Option Addr) (c : Nat) (bs : List Int) (b : Option Addr) (n d : Nat) (ms : List Int) (w : World) (hx : Bs w a 32 c bs) (hy : Bs w b n d ms) (hn : n ≤ 2000) :
  Calls Tryz.prog 49 #[.slice a 32 c, .slice b n d] w fun e w' => ∃ v, e = .returned v ∧ w'.ownsRow w.heap.size 5 1 v 64 (U8 (sgB bs ms)) ∧ Below w.heap.size w w' := by
 obtain ⟨S, eS⟩ : ∃ x, x = sumOfW bs := ⟨_, rfl⟩
 obtain ⟨A, eA⟩ : ∃ x, x = sA bs := ⟨_, rfl⟩
 obtain ⟨r, er⟩ : ∃ x, x = sgR bs ms := ⟨_, rfl⟩
 obtain ⟨F, eF⟩ : ∃ x, x = sgF bs ms := ⟨_, rfl⟩
 obtain ⟨Q, eQ⟩ : ∃ x, x = baseB (val A).toNat := ⟨_, rfl⟩
 obtain ⟨k, ek⟩ : ∃ x, x = sgK bs ms := ⟨_, rfl⟩
 obtain ⟨am, eam⟩ : ∃ x, x = redO (val A) := ⟨_, rfl⟩
 obtain ⟨pd, epd⟩ : ∃ x, x = redO (val k * val am) := ⟨_, rfl⟩
 obtain ⟨s, es⟩ : ∃ x, x = sgS bs ms := ⟨_, rfl⟩
 have hn1 : bs.length = 32 := hx.2.1
 have lA : A.length = 16 := by rw [eA]; exact sA_len _
 have mA : Lm A := by rw [eA]; exact sA_lm _
 have or : scOk r = true := by rw [er, sgR]; exact mS_ok _
 have ok : scOk k = true := by rw [ek, sgK]; exact mS_ok _
 have oam : scOk am = true := by rw [eam]; exact redO_ok _
 have opd : scOk pd = true := by rw [epd]; exact redO_ok _
 have os : scOk s = true := by rw [es, sgS]; exact redO_ok _
 obtain ⟨lr, mr, vr⟩ := (scOk_iff r).1 or
 obtain ⟨lk, mk, vk⟩ := (scOk_iff k).1 ok
 obtain ⟨lam, mam, vam⟩ := (scOk_iff am).1 oam
 obtain ⟨lpd, mpd, vpd⟩ := (scOk_iff pd).1 opd
 obtain ⟨ls, mms, vs⟩ := (scOk_iff s).1 os
 have HS : Hid (∀ Z, Below w.heap.size w Z → Calls Tryz.prog 73 #[.slice a 32 c] Z fun e w' => ∃ a' c', e = .returned (.slice a' 64 c') ∧ Bs w' a' 64 c' S ∧ Below Z.heap.size Z w') := by unfold Hid; intro Z hZ; rw [eS]; exact specHash a 32 c bs Z (hx.below hZ) (by omega)
 have HC : Hid (∀ a c Z, Bs Z a 32 c (S.take 32) → Calls Tryz.prog 90 #[.slice a 32 c] Z fun e w' => e = .returned (.agg (I64 A).toArray) ∧ Below Z.heap.size Z w') := by unfold Hid; intro a c Z h; rw [eA, sA, ← eS]; exact specClamp16 a c _ Z h
 have HB : Hid (∀ Z, Calls Tryz.prog 77 #[] Z fun e w' => e = .returned (.agg (I64 base6.cells).toArray) ∧ Below Z.heap.size Z w') := by unfold Hid; intro Z; exact spec6base Z
 obtain ⟨MA, hMA⟩ : ∃ M, M = mul6 base6 (val A).toNat := ⟨_, rfl⟩
 have HMA : Hid (∀ Z, Calls Tryz.prog 76 #[.agg (I64 base6.cells).toArray, .agg (I64 A).toArray] Z fun e w' => e = .returned (.agg (I64 MA.cells).toArray) ∧ Below Z.heap.size Z w') := by unfold Hid; intro Z; rw [hMA]; exact spec6mul base6 A Z base6_ok lA mA
 have HYA : Hid (∀ Z, Calls Tryz.prog 54 #[.agg (I64 MA.cells).toArray] Z fun e w' => ∃ a' c', e = .returned (.slice a' 32 c') ∧ w'.ownsRow Z.heap.size 5 1 (.slice a' 32 c') 32 (U8 Q) ∧ Below Z.heap.size Z w') := by
  unfold Hid; intro Z; rw [hMA, show Q = baseB (val A).toNat by exact eQ]
  refine (specBase A Z lA mA).mono ?_; rintro e w' ⟨v, rfl, ho, hb⟩; obtain ⟨a', c', rfl, _, _⟩ := Bs.own ho (baseB_byte _); exact ⟨a', c', rfl, ho, hb⟩
 clear hMA
 obtain ⟨Mr, hMr⟩ : ∃ M, M = mul6 base6 (val r).toNat := ⟨_, rfl⟩
 have HMr : Hid (∀ Z, Calls Tryz.prog 76 #[.agg (I64 base6.cells).toArray, .agg (I64 r).toArray] Z fun e w' => e = .returned (.agg (I64 Mr.cells).toArray) ∧ Below Z.heap.size Z w') := by unfold Hid; intro Z; rw [hMr]; exact spec6mul base6 r Z base6_ok lr mr
 have HYr : Hid (∀ Z, Calls Tryz.prog 54 #[.agg (I64 Mr.cells).toArray] Z fun e w' => ∃ a' c', e = .returned (.slice a' 32 c') ∧ w'.ownsRow Z.heap.size 5 1 (.slice a' 32 c') 32 (U8 F) ∧ Below Z.heap.size Z w') := by
  unfold Hid; intro Z; rw [hMr, show F = baseB (val r).toNat by rw [eF, sgF, er]]
  refine (specBase r Z lr mr).mono ?_; rintro e w' ⟨v, rfl, ho, hb⟩; obtain ⟨a', c', rfl, _, _⟩ := Bs.own ho (baseB_byte _); exact ⟨a', c', rfl, ho, hb⟩
 clear hMr
 have HJ1 : Hid (∀ a1 c1 Z, Bs Z a1 32 c1 (S.drop 32) → Below w.heap.size w Z → Calls Tryz.prog 74 #[.slice a1 32 c1, .slice b n d, .slice none 0 0] Z fun e w' => ∃ a' c', e = .returned (.slice a' (32 + n + 0) c') ∧ Bs w' a' (32 + n + 0) c' (S.drop 32 ++ ms) ∧ Below Z.heap.size Z w') := by
  unfold Hid; intro a1 c1 Z h hZ; refine (specJoin a1 b none 32 c1 n d 0 0 _ ms [] Z h (hy.below hZ) ⟨fun _ => rfl, rfl, Nat.le_refl _, by simp, .inl rfl⟩ (by omega)).mono ?_
  rintro e w' ⟨v, rfl, ho, hb⟩; rw [List.append_nil] at ho; obtain ⟨a', c', rfl, _, hB⟩ := Bs.own ho (app_byte (by rw [eS]; exact drop_byte (sumOfW_byte _) 32) hy.2.2.2.1); exact ⟨a', c', rfl, hB, hb⟩
 have HJ2 : Hid (∀ a1 c1 a2 c2 Z, Bs Z a1 32 c1 F → Bs Z a2 32 c2 Q → Below w.heap.size w Z → Calls Tryz.prog 74 #[.slice a1 32 c1, .slice a2 32 c2, .slice b n d] Z fun e w' => ∃ a' c', e = .returned (.slice a' (32 + 32 + n) c') ∧ Bs w' a' (32 + 32 + n) c' (F ++ Q ++ ms) ∧ Below Z.heap.size Z w') := by
  unfold Hid; intro a1 c1 a2 c2 Z h h' hZ; refine (specJoin a1 a2 b 32 c1 32 c2 n d _ _ ms Z h h' (hy.below hZ) (by omega)).mono ?_
  rintro e w' ⟨v, rfl, ho, hb⟩; obtain ⟨a', c', rfl, _, hB⟩ := Bs.own ho (app_byte (app_byte (by rw [eF]; exact baseB_byte _) (by rw [eQ]; exact baseB_byte _)) hy.2.2.2.1); exact ⟨a', c', rfl, hB, hb⟩
 have HH : Hid (∀ a m c xs Z, Bs Z a m c xs → m ≤ 20000 → Calls Tryz.prog 73 #[.slice a m c] Z fun e w' => ∃ a' c', e = .returned (.slice a' 64 c') ∧ Bs w' a' 64 c' (sumOfW xs) ∧ Below Z.heap.size Z w') := by unfold Hid; intro a m c xs Z h hm; exact specHash a m c xs Z h hm
 have HWr : Hid (∀ a c Z, Bs Z a 64 c (sumOfW (S.drop 32 ++ ms)) → Calls Tryz.prog 72 #[.slice a 64 c] Z fun e w' => e = .returned (.agg (I64 r).toArray) ∧ Below Z.heap.size Z w') := by unfold Hid; intro a c Z h; rw [er, sgR, mS, ← eS]; exact specWide16 a c _ Z h
 have HWk : Hid (∀ a c Z, Bs Z a 64 c (sumOfW (F ++ Q ++ ms)) → Calls Tryz.prog 72 #[.slice a 64 c] Z fun e w' => e = .returned (.agg (I64 k).toArray) ∧ Below Z.heap.size Z w') := by unfold Hid; intro a c Z h; rw [ek, sgK, mS, ← eF, ← eA, ← eQ]; exact specWide16 a c _ Z h
 have HA : Hid (∀ Z, Calls Tryz.prog 93 #[.agg (I64 A).toArray] Z fun e w' => e = .returned (.agg (I64 am).toArray) ∧ Below Z.heap.size Z w') := by unfold Hid; intro Z; rw [eam]; exact specL7mod A Z lA mA
 have HP : Hid (∀ Z, Calls Tryz.prog 92 #[.agg (I64 k).toArray, .agg (I64 am).toArray] Z fun e w' => e = .returned (.agg (I64 pd).toArray) ∧ Below Z.heap.size Z w') := by unfold Hid; intro Z; rw [epd]; exact specScMul16 k am Z lk lam mk mam
 have HD : Hid (∀ Z, Calls Tryz.prog 91 #[.agg (I64 r).toArray, .agg (I64 pd).toArray] Z fun e w' => e = .returned (.agg (I64 s).toArray) ∧ Below Z.heap.size Z w') := by unfold Hid; intro Z; rw [es, sgS, ← er, ← ek, ← eA, ← eam, ← epd]; exact specScAdd16 r pd Z lr lpd mr mpd vr vpd
 have HZ : Hid (∀ Z, Calls Tryz.prog 53 #[.agg (I64 s).toArray] Z fun e w' => ∃ a' c', e = .returned (.slice a' 32 c') ∧ Bs w' a' 32 c' (btL s) ∧ Below Z.heap.size Z w') := by
  unfold Hid; intro Z; refine (specBytes16 s Z ls mms).mono ?_; rintro e w' ⟨v, rfl, ho, hb⟩; obtain ⟨a', c', rfl, _, hB⟩ := Bs.own ho (btL_byte mms); exact ⟨a', c', rfl, hB, hb⟩
 have hE : sgB bs ms = F ++ btL s := by rw [eF, es]; rfl
 rw [hE]
 have jA := infoV' lA
 have iiA : (Tryz.prog.info? 80).map (·.size) = some (I64 A).length := by simpa [lA] using infoV
 have uA := one_lm A
 have jr := infoV' lr
 have iir : (Tryz.prog.info? 80).map (·.size) = some (I64 r).length := by simpa [lr] using infoV
 have ur := one_lm r
 have jk := infoV' lk
 have iik : (Tryz.prog.info? 80).map (·.size) = some (I64 k).length := by simpa [lk] using infoV
 have uk := one_lm k
 have js := infoV' ls
 have iis : (Tryz.prog.info? 80).map (·.size) = some (I64 s).length := by simpa [ls] using infoV
 have us := one_lm s
 have hu : Tryz.prog.underlying 80 = some (.array 16 3) := Tryz.underlying80
 have sl : S.length = 64 := by rw [eS]; exact sumOfW_len _
 have HFB : Hid (∀ x ∈ F, 0 ≤ x ∧ x < 256) := by unfold Hid; rw [eF]; exact baseB_byte _
 have HQB : Hid (∀ x ∈ Q, 0 ≤ x ∧ x < 256) := by unfold Hid; rw [eQ]; exact baseB_byte _
 clear hE eS eA er eF eQ ek eam epd es or ok oam opd os mA mr mk mam mpd mms vr vk vam vpd vs hx
 obtain ⟨W, hW⟩ : ∃ W, W = w := ⟨_, rfl⟩
 have fr : Below w.heap.size w W := by rw [hW]; exact (Below.refl _ _)
 go_enter Tryz.func49, Tryz.ntmps49
 go_upto_region 1 with fail
 rw [← hW]
 clear hW
 go_wp2_with fail
 refine (HS.out _ fr).mono ?_
 rintro e y1 ⟨a1, c1, rfl, hS, hb⟩
 replace fr := fr.trans (hb.mono fr.size)
 clear hb
 obtain ⟨g, o1, rfl⟩ : ∃ g o, a1 = some ⟨g, o, none⟩ := by
  rcases hS.2.2.2.2 with h | ⟨b, o, h, _⟩
  ·omega
  ·exact ⟨b, o, h⟩
 have hcc : (32 : Int) ≤ (c1 : Int) := by have := hS.2.2.1; omega
 have hcne : ¬ c1 = 32 := by have := hS.2.2.1; omega
 go_wp2_with fail
 refine (HC.out _ _ _ (hS.takeW (m := 32) (by omega))).mono ?_
 rintro e y1 ⟨rfl, hb1⟩
 replace fr := fr.trans (hb1.mono fr.size)
 replace hS := hS.below hb1
 clear hb1
 have hXA : w.heap.size ≤ y1.heap.size := fr.size
 obtain ⟨bV, AA, q1⟩ := laid_v y1 A
 replace fr := fr.trans (bV.mono fr.size)
 replace hS := hS.below bV
 go_upto_region 3 with (refine wpList_store_row rfl 80 _ _ rfl y1.heap.size (I64 A).toArray rfl rfl 80 _ q1 jA (by simp [lA]) (by simp [Value.oneCell']) ?_)
 obtain ⟨V2, hVV⟩ : ∃ V, V = (y1.alloc (.cells zV 80)).setRow y1.heap.size (I64 A).toArray := ⟨_, rfl⟩
 obtain ⟨XA, hE⟩ : ∃ E, E = y1.heap.size := ⟨_, rfl⟩
 rw [← hVV] at fr hS AA ⊢
 rw [← hE] at AA hXA ⊢
 clear hVV hE q1 bV
 try simp only [Act.put]
 have bD : Below V2.heap.size V2 V2.drew := (Below.refl _ _).drew
 replace fr := fr.trans (bD.mono fr.size)
 replace hS := hS.below bD
 replace AA := AA.kept bD
 clear bD
 refine wp_region_held_drew (S := fun W => W.rangeAt XA 0 (I64 A)) (by kernel_rfl) (arr_range AA) (fun hHeld => ?_)
 obtain ⟨D3, hD⟩ : ∃ V, V = V2.drew := ⟨_, rfl⟩
 rw [← hD] at hHeld fr hS AA ⊢
 clear hD
 refine wpAnyH_take (i := 1) (oi := { dst := some 18, op := Op.load 80 (Operand.tmp 6), type := 80, pos := "l07_sign.go:43", after := #[], guard := none }) (v := _) rfl (by kernel_rfl) (by kernel_rfl) (by kernel_rfl) (fun _ _ _ h => h) (yieldsIf_load_mid (by rfl) _ _ rfl _ _ rfl (I64 A) _ (fun _ h => h) hu rfl iiA) (by assumption) ?_
 simp only [aP]
 refine wpAnyH_ready (rs := [0]) (by kernel_rfl) (by simp) (AllReadyH.cons (o := { dst := some 17, op := Op.call { callee := Callee.value (Operand.func 77), args := #[], argTypes := #[] }, type := 86, pos := "l07_sign.go:43", after := #[], guard := none }) rfl (fun K hK => ?_) AllReadyH.nil)
 go_simp
 refine (HB.out _).mono ?_
 rintro e y4 ⟨rfl, hb4⟩
 replace fr := fr.trans (hb4.mono fr.size)
 replace hS := hS.below hb4
 replace AA := AA.kept hb4
 clear hb4
 go_wp2_with fail
 refine hK.out _ _ (arr_range AA) (fun hHeld => ?_)
 clear hK K
 refine wpAnyH_ready (rs := [2]) (by kernel_rfl) (by simp) (AllReadyH.cons (o := { dst := some 19, op := Op.call { callee := Callee.value (Operand.func 76), args := #[Operand.tmp 17, Operand.tmp 18], argTypes := #[86, 80] }, type := 86, pos := "l07_sign.go:43", after := #[{ on := 0, ground := Ground.data }, { on := 1, ground := Ground.data }, { on := 0, ground := Ground.chain }], guard := none }) rfl (fun K hK => ?_) AllReadyH.nil)
 go_simp
 refine (HMA.out _).mono ?_
 rintro e y5 ⟨rfl, hb5⟩
 replace fr := fr.trans (hb5.mono fr.size)
 replace hS := hS.below hb5
 replace AA := AA.kept hb5
 clear hb5
 go_wp2_with fail
 refine hK.out _ _ (arr_range AA) (fun hHeld => ?_)
 clear hK K
 refine wpAnyH_ready (rs := [3]) (by kernel_rfl) (by simp) (AllReadyH.cons (o := { dst := some 20, op := Op.call { callee := Callee.value (Operand.func 54), args := #[Operand.tmp 19], argTypes := #[86] }, type := 22, pos := "l07_sign.go:43", after := #[{ on := 2, ground := Ground.data }, { on := 2, ground := Ground.chain }], guard := none }) rfl (fun K hK => ?_) AllReadyH.nil)
 go_simp
 have zoQ := fr.size
 refine (HYA.out _).mono ?_
 rintro e y6 ⟨aA, cA, rfl, oQ, hb6⟩
 replace fr := fr.trans (hb6.mono fr.size)
 replace hS := hS.below hb6
 replace AA := AA.kept hb6
 clear hb6
 have ioQ := In.of oQ
 have boQ : Below y6.heap.size y6 y6 := Below.refl _ _
 go_wp2_with fail
 refine hK.out _ _ (arr_range AA) (fun hHeld => ?_)
 clear hK K
 refine wpAnyH_ready (rs := [4]) (by kernel_rfl) (by simp) (AllReadyH.cons (o := { dst := some 7, op := Op.assign (Operand.tmp 20), type := 22, pos := "l07_sign.go:43", after := #[{ on := 3, ground := Ground.data }, { on := 3, ground := Ground.chain }, { on := 0, ground := Ground.phase }, { on := 1, ground := Ground.phase }, { on := 2, ground := Ground.phase }, { on := 3, ground := Ground.phase }], guard := none }) rfl (fun K hK => ?_) AllReadyH.nil)
 go_simp
 refine hK.out _ _ (arr_range AA) (fun hHeld => ?_)
 clear hK K
 refine wpAnyH_done (by kernel_rfl) ?_ _
 go_upto_region 4 with fail
 have hSd := hS.dropW (m := 32) (by omega)
 go_wp2_with fail
 refine (HJ1.out _ _ _ hSd fr).mono ?_
 rintro e y7 ⟨a3, c3, rfl, hJ, hb7⟩
 replace fr := fr.trans (hb7.mono fr.size)
 replace hS := hS.below hb7
 replace AA := AA.kept hb7
 replace oQ := own_below oQ hb7
 replace boQ := boQ.trans (hb7.mono boQ.size)
 clear hb7 hSd
 clear hS
 go_wp2_with fail
 refine (HH.out _ _ _ _ _ hJ (by omega)).mono ?_
 rintro e y8 ⟨a4, c4, rfl, hJ2, hb8⟩
 replace fr := fr.trans (hb8.mono fr.size)
 replace AA := AA.kept hb8
 replace oQ := own_below oQ hb8
 replace boQ := boQ.trans (hb8.mono boQ.size)
 clear hb8 hJ
 go_wp2_with fail
 refine (HWr.out _ _ _ hJ2).mono ?_
 rintro e y9 ⟨rfl, hb9⟩
 replace fr := fr.trans (hb9.mono fr.size)
 replace AA := AA.kept hb9
 replace oQ := own_below oQ hb9
 replace boQ := boQ.trans (hb9.mono boQ.size)
 clear hb9 hJ2
 have hXr : XA < y9.heap.size ∧ w.heap.size ≤ y9.heap.size := ⟨AA.lt, fr.size⟩
 obtain ⟨bV, Ar, q1⟩ := laid_v y9 r
 replace fr := fr.trans (bV.mono fr.size)
 replace AA := AA.kept bV
 replace oQ := own_below oQ bV
 replace boQ := boQ.trans (bV.mono boQ.size)
 go_upto_region 5 with (refine wpList_store_row rfl 80 _ _ rfl y9.heap.size (I64 r).toArray rfl rfl 80 _ q1 jr (by simp [lr]) (by simp [Value.oneCell']) ?_)
 obtain ⟨V10, hVV⟩ : ∃ V, V = (y9.alloc (.cells zV 80)).setRow y9.heap.size (I64 r).toArray := ⟨_, rfl⟩
 obtain ⟨Xr, hE⟩ : ∃ E, E = y9.heap.size := ⟨_, rfl⟩
 rw [← hVV] at fr AA oQ boQ Ar ⊢
 rw [← hE] at Ar hXr ⊢
 clear hVV hE q1 bV
 try simp only [Act.put]
 have bD : Below V10.heap.size V10 V10.drew := (Below.refl _ _).drew
 replace fr := fr.trans (bD.mono fr.size)
 replace AA := AA.kept bD
 replace oQ := own_below oQ bD
 replace boQ := boQ.trans (bD.mono boQ.size)
 replace Ar := Ar.kept bD
 clear bD
 refine wp_region_held_drew (S := fun W => W.rangeAt Xr 0 (I64 r)) (by kernel_rfl) (arr_range Ar) (fun hHeld => ?_)
 obtain ⟨D11, hD⟩ : ∃ V, V = V10.drew := ⟨_, rfl⟩
 rw [← hD] at hHeld fr AA oQ boQ Ar ⊢
 clear hD
 refine wpAnyH_take (i := 1) (oi := { dst := some 28, op := Op.load 80 (Operand.tmp 8), type := 80, pos := "l07_sign.go:45", after := #[], guard := none }) (v := _) rfl (by kernel_rfl) (by kernel_rfl) (by kernel_rfl) (fun _ _ _ h => h) (yieldsIf_load_mid (by rfl) _ _ rfl _ _ rfl (I64 r) _ (fun _ h => h) hu rfl iir) (by assumption) ?_
 simp only [aP]
 refine wpAnyH_ready (rs := [0]) (by kernel_rfl) (by simp) (AllReadyH.cons (o := { dst := some 27, op := Op.call { callee := Callee.value (Operand.func 77), args := #[], argTypes := #[] }, type := 86, pos := "l07_sign.go:45", after := #[], guard := none }) rfl (fun K hK => ?_) AllReadyH.nil)
 go_simp
 refine (HB.out _).mono ?_
 rintro e y12 ⟨rfl, hb12⟩
 replace fr := fr.trans (hb12.mono fr.size)
 replace AA := AA.kept hb12
 replace oQ := own_below oQ hb12
 replace boQ := boQ.trans (hb12.mono boQ.size)
 replace Ar := Ar.kept hb12
 clear hb12
 go_wp2_with fail
 refine hK.out _ _ (arr_range Ar) (fun hHeld => ?_)
 clear hK K
 refine wpAnyH_ready (rs := [2]) (by kernel_rfl) (by simp) (AllReadyH.cons (o := { dst := some 29, op := Op.call { callee := Callee.value (Operand.func 76), args := #[Operand.tmp 27, Operand.tmp 28], argTypes := #[86, 80] }, type := 86, pos := "l07_sign.go:45", after := #[{ on := 0, ground := Ground.data }, { on := 1, ground := Ground.data }, { on := 0, ground := Ground.chain }], guard := none }) rfl (fun K hK => ?_) AllReadyH.nil)
 go_simp
 refine (HMr.out _).mono ?_
 rintro e y13 ⟨rfl, hb13⟩
 replace fr := fr.trans (hb13.mono fr.size)
 replace AA := AA.kept hb13
 replace oQ := own_below oQ hb13
 replace boQ := boQ.trans (hb13.mono boQ.size)
 replace Ar := Ar.kept hb13
 clear hb13
 go_wp2_with fail
 refine hK.out _ _ (arr_range Ar) (fun hHeld => ?_)
 clear hK K
 refine wpAnyH_ready (rs := [3]) (by kernel_rfl) (by simp) (AllReadyH.cons (o := { dst := some 30, op := Op.call { callee := Callee.value (Operand.func 54), args := #[Operand.tmp 29], argTypes := #[86] }, type := 22, pos := "l07_sign.go:45", after := #[{ on := 2, ground := Ground.data }, { on := 2, ground := Ground.chain }], guard := none }) rfl (fun K hK => ?_) AllReadyH.nil)
 go_simp
 have zoF := fr.size
 refine (HYr.out _).mono ?_
 rintro e y14 ⟨ar, cr, rfl, oF, hb14⟩
 replace fr := fr.trans (hb14.mono fr.size)
 replace AA := AA.kept hb14
 replace oQ := own_below oQ hb14
 replace boQ := boQ.trans (hb14.mono boQ.size)
 replace Ar := Ar.kept hb14
 clear hb14
 have ioF := In.of oF
 have boF : Below y14.heap.size y14 y14 := Below.refl _ _
 go_wp2_with fail
 refine hK.out _ _ (arr_range Ar) (fun hHeld => ?_)
 clear hK K
 refine wpAnyH_ready (rs := [4]) (by kernel_rfl) (by simp) (AllReadyH.cons (o := { dst := some 9, op := Op.assign (Operand.tmp 30), type := 22, pos := "l07_sign.go:45", after := #[{ on := 3, ground := Ground.data }, { on := 3, ground := Ground.chain }, { on := 0, ground := Ground.phase }, { on := 1, ground := Ground.phase }, { on := 2, ground := Ground.phase }, { on := 3, ground := Ground.phase }], guard := none }) rfl (fun K hK => ?_) AllReadyH.nil)
 go_simp
 refine hK.out _ _ (arr_range Ar) (fun hHeld => ?_)
 clear hK K
 refine wpAnyH_done (by kernel_rfl) ?_ _
 go_upto_region 6 with fail
 go_wp2_with fail
 refine (HJ2.out _ _ _ _ _ (bs_of_own oF HFB.out) (bs_of_own oQ HQB.out) fr).mono ?_
 rintro e y15 ⟨a5, c5, rfl, hJ, hb15⟩
 replace fr := fr.trans (hb15.mono fr.size)
 replace AA := AA.kept hb15
 replace oQ := own_below oQ hb15
 replace boQ := boQ.trans (hb15.mono boQ.size)
 replace Ar := Ar.kept hb15
 replace oF := own_below oF hb15
 replace boF := boF.trans (hb15.mono boF.size)
 clear hb15
 clear oQ
 clear boQ
 go_wp2_with fail
 refine (HH.out _ _ _ _ _ hJ (by omega)).mono ?_
 rintro e y16 ⟨a6, c6, rfl, hJ2, hb16⟩
 replace fr := fr.trans (hb16.mono fr.size)
 replace AA := AA.kept hb16
 replace Ar := Ar.kept hb16
 replace oF := own_below oF hb16
 replace boF := boF.trans (hb16.mono boF.size)
 clear hb16 hJ
 go_wp2_with fail
 refine (HWk.out _ _ _ hJ2).mono ?_
 rintro e y17 ⟨rfl, hb17⟩
 replace fr := fr.trans (hb17.mono fr.size)
 replace AA := AA.kept hb17
 replace Ar := Ar.kept hb17
 replace oF := own_below oF hb17
 replace boF := boF.trans (hb17.mono boF.size)
 clear hb17 hJ2
 have hXk : XA < y17.heap.size ∧ Xr < y17.heap.size ∧ w.heap.size ≤ y17.heap.size := ⟨AA.lt, Ar.lt, fr.size⟩
 obtain ⟨bV, Ak, q1⟩ := laid_v y17 k
 replace fr := fr.trans (bV.mono fr.size)
 replace AA := AA.kept bV
 replace Ar := Ar.kept bV
 replace oF := own_below oF bV
 replace boF := boF.trans (bV.mono boF.size)
 go_upto_region 7 with (refine wpList_store_row rfl 80 _ _ rfl y17.heap.size (I64 k).toArray rfl rfl 80 _ q1 jk (by simp [lk]) (by simp [Value.oneCell']) ?_)
 obtain ⟨V18, hVV⟩ : ∃ V, V = (y17.alloc (.cells zV 80)).setRow y17.heap.size (I64 k).toArray := ⟨_, rfl⟩
 obtain ⟨Xk, hE⟩ : ∃ E, E = y17.heap.size := ⟨_, rfl⟩
 rw [← hVV] at fr AA Ar oF boF Ak ⊢
 rw [← hE] at Ak hXk ⊢
 clear hVV hE q1 bV
 have zF := boF.size
 try simp only [Act.put]
 refine tame [kc 37 (.agg (I64 r).toArray), kc 38 (.agg (I64 k).toArray), kc 39 (.agg (I64 A).toArray), kc 40 (.agg (I64 am).toArray), kc 41 (.agg (I64 pd).toArray), kc 42 (.agg (I64 s).toArray), ka 11 80 (I64 Z16)] 7 (by kernel_rfl) (by kernel_rfl) (by kernel_rfl) (by repeat' first | exact trivial | apply kc_keeps | apply ka_keeps | constructor) 1 (by kernel_rfl) (fun vv1 ll1 hh1 yW b => ?_) (fun vv1 ll1 hh1 yW b F ivh aph => ?_)
 ·skip
  replace fr := fr.trans (b.mono fr.size)
  replace AA := AA.kept b
  replace Ar := Ar.kept b
  replace oF := own_below oF b
  replace boF := boF.trans (b.mono boF.size)
  replace Ak := Ak.kept b
  exact ⟨tl (arr_range Ar) iir hu (by kernel_rfl),
   tl (arr_range Ak) iik hu (by kernel_rfl),
   tl (arr_range AA) iiA hu (by kernel_rfl),
   tc (HA.out _) (by kernel_rfl),
   tc (HP.out _) (by kernel_rfl),
   tc (HD.out _) (by kernel_rfl),
   ta (by kernel_rfl), trivial⟩
 obtain ⟨y19, hy⟩ : ∃ z, z = yW := ⟨_, rfl⟩
 rw [← hy] at b F ivh ⊢
 clear hy
 have oq : XA < V18.heap.size ∧ Xr < V18.heap.size ∧ Xk < V18.heap.size ∧ w.heap.size ≤ V18.heap.size := ⟨AA.lt, Ar.lt, Ak.lt, fr.size⟩
 replace fr := fr.trans (b.mono fr.size)
 replace AA := AA.kept b
 replace Ar := Ar.kept b
 replace oF := own_below oF b
 replace boF := boF.trans (b.mono boF.size)
 replace Ak := Ak.kept b
 obtain ⟨-, -, -, -, -, -, ⟨As, gXs⟩, -⟩ := F
 have iXs := ivh 6 (by decide)
 replace As : Arr y19 (ll1 6) 80 (I64 Z16) := As
 replace gXs : ll1 6 < hh1 6 := gXs
 have lXs := As.lt
 refine st_row (i := 7) (cells := I64 s) (by kernel_rfl) rfl rfl rfl rfl As (by kernel_rfl) (by kernel_rfl) (by simp [ls]) js us ?_
 replace fr := bel_sc fr (ll1 6) (I64 s) (by omega)
 replace AA := AA.sc (ll1 6) (I64 s) (by omega)
 replace Ar := Ar.sc (ll1 6) (I64 s) (by omega)
 replace oF : (y19.setCells (ll1 6) 0 (I64 s)).ownsRow y13.heap.size 5 1 (.slice ar 32 cr) 32 (U8 F) := own_setCells oF ioF (by omega) _
 replace boF := bel_sc boF (ll1 6) (I64 s) (by omega)
 replace Ak := Ak.sc (ll1 6) (I64 s) (by omega)
 replace As := As.sc0 (I64 s) (by simp [ls])
 obtain ⟨V20, hVe⟩ : ∃ V, V = y19.setCells (ll1 6) 0 (I64 s) := ⟨_, rfl⟩
 rw [← hVe] at fr AA Ar oF boF Ak As ⊢
 clear hVe
 refine wpAny_done (by kernel_rfl) ?_ _
 simp only [fillK, putT, List.setIfInBounds_toArray, List.set_cons_zero, List.set_cons_succ]
 have qXs : XA < ll1 6 ∧ Xr < ll1 6 ∧ Xk < ll1 6 ∧ w.heap.size ≤ ll1 6 := by omega
 clear iXs gXs lXs
 generalize ll1 6 = Xs at *
 clear ivh aph b oq
 clear Ar
 clear Ak
 clear AA
 go_wp2_with (refine wpList_load_row rfl 80 _ rfl Xs rfl 80 (I64 s).toArray (0, 0) _ As Tryz.underlying80 rfl js ?_)
 refine (HZ.out _).mono ?_
 rintro e y21 ⟨a7, c7, rfl, hZ, hb21⟩
 replace fr := fr.trans (hb21.mono fr.size)
 replace oF := own_below oF hb21
 replace boF := boF.trans (hb21.mono boF.size)
 replace As := As.kept hb21
 clear hb21
 have oF2 := own_base oF zoF
 go_wp2_with (at_builtin; refine wpl_append_bs rfl _ _ rfl w.heap.size _ 32 F rfl a7 32 c7 (btL s) rfl oF2 hZ (by omega) fr.size ?_)
 intro v8 w8 ow8 gr8 _
 have b8 : Below w.heap.size w w8 := fr.grown gr8 fr.size (fun k hk => by have := (ioF k hk).1; omega)
 go_wp2
 go_ret
 exact ⟨v8, rfl, by simpa [U8] using ow8, b8⟩
theorem str_eq {xs ys : List Int} (hx : ∀ x ∈ xs, 0 ≤ x ∧ x < 256) (hy : ∀ x ∈ ys, 0 ≤ x ∧ x < 256) : ((strOfNums xs).toList == (strOfNums ys).toList) = decide (xs = ys) := by
 have e : ∀ l : List Int, (strOfNums l).toList = l.map (fun n => UInt8.ofNat n.toNat) := fun l => by
  unfold strOfNums
  exact ByteArray.toList_mk _
 have back : ∀ l : List Int, (∀ x ∈ l, 0 ≤ x ∧ x < 256) → (l.map (fun n => UInt8.ofNat n.toNat)).map (fun u => (u.toNat : Int)) = l := by
  intro l hl
  rw [List.map_map]
  have : l.map ((fun u : UInt8 => (u.toNat : Int)) ∘ fun n : Int => UInt8.ofNat n.toNat) = l.map id := List.map_congr_left fun n hn => by
   have := hl n hn
   simp only [Function.comp, id]
   rw [UInt8.toNat_ofNat']
   omega
  rw [this, List.map_id]
 rw [e, e]
 by_cases h : xs = ys
 ·subst h; simp
 ·have h9 : xs.map (fun n => UInt8.ofNat n.toNat) ≠ ys.map (fun n => UInt8.ofNat n.toNat) := fun q => h (by rw [← back xs hx, ← back ys hy, q])
  rw [decide_eq_false h]
  exact beq_eq_false_iff_ne.2 h9
theorem bs_conv {w : World} {b o n c : Nat} {xs : List Int} (h : Bs w (some ⟨b, o, none⟩) n c xs) : (convert 22 9 (.slice (some ⟨b, o, none⟩) n c)).run Tryz.prog w = .ok (.string (strOfNums xs)) w := by
 obtain ⟨_, hl, _, _, hx⟩ := h
 refine run_convert_bytes_arg w 22 5 Tryz.underlying22 Tryz.underlying5 b o n c xs hl (fun i hi => ?_) 9 Tryz.underlying9
 rcases hx with hx | ⟨b', o', he, _, hcell⟩
 ·omega
 ·cases he
  exact hcell i hi

set_option maxHeartbeats 1000000 in
theorem equalB (b o n c b' o' m d : Nat) (xs ys : List Int) (w : World) (h : Bs w (some ⟨b, o, none⟩) n c xs) (k : Bs w (some ⟨b', o', none⟩) m d ys) :
  Calls Tryz.prog 88 #[.slice (some ⟨b, o, none⟩) n c, .slice (some ⟨b', o', none⟩) m d] w fun e w' => e = .returned (.bool (decide (xs = ys))) ∧ w' = w := by
 have h1 := bs_conv h
 have h2 := bs_conv k
 have e1 := str_eq h.2.2.2.1 k.2.2.2.1
 obtain ⟨s, hs⟩ : ∃ s, s = strOfNums xs := ⟨_, rfl⟩
 obtain ⟨t, ht⟩ : ∃ t, t = strOfNums ys := ⟨_, rfl⟩
 rw [← hs] at h1 e1
 rw [← ht] at h2 e1
 rw [← e1]
 clear e1 hs ht h k
 go_enter Tryz.func88, Tryz.ntmps88
 go_wp2
 go_ret
 exact ⟨rfl, rfl⟩
def E8 : List Int := [65534, 65535, 65535, 65535, 65535, 65535, 65535, 65535, 65535, 65535, 65535, 65535, 65535, 65535, 65535, 4095]
theorem E8_val : (val E8).toNat = eRt := by decide
theorem QL_val : val QL = (qN : Int) := by decide
structure RP (w W : World) (E : Nat) (a r : List Int) : Prop where
 e2 : E2 w W a
 pr : Arr W E 80 (I64 r)
 lt : w.heap.size + 1 < E
theorem RP.go {w A B : World} {E : Nat} {a r : List Int} (h : RP w A E a r) (hb : Below A.heap.size A B) : RP w B E a r := ⟨h.e2.go hb, h.pr.kept hb, h.lt⟩
theorem RP.put {w W : World} {E : Nat} {a r : List Int} (h : RP w W E a r) (s : List Int) (hl : (I64 r).length = (I64 s).length) : RP w (W.setCells E 0 (I64 s)) E a s := by
 have := h.lt
 exact ⟨⟨setCells_below (by omega) _ _ h.e2.fr, Arr.setCellsO (by omega) _ _ h.e2.pa, Arr.setCellsO (by omega) _ _ h.e2.pr⟩, Arr.setCells0 h.pr hl, h.lt⟩
theorem E2.fresh {w W : World} {a : List Int} (h : E2 w W a) : RP w (W.alloc (.cells (I64 Z16).toArray 80)) W.heap.size a Z16 := by
 have h1 := h.fr.size
 exact ⟨⟨h.fr.alloc h1 _, h.pa.alloc _, h.pr.alloc _⟩, Arr.new _ _ _, h.pr.lt⟩
theorem RP.both {w W : World} {E : Nat} {a r : List Int} (h : RP w W E a r) : W.rangeAt E 0 (I64 r) ∧ W.rangeAt w.heap.size 0 (I64 a) := ⟨arr_range h.pr, arr_range h.e2.pa⟩

def rt1 (a : List Int) : List Int := red (val a ^ eRt)
def sqF (r : List Int) : List Int := red (val r * val r)
def rt2 (a : List Int) : List Int := if sqF (rt1 a) = a then rt1 a else red (val (rt1 a) * val QL)
def rtOk (a : List Int) : Bool := decide (sqF (rt2 a) = a)
def rt3 (a : List Int) : List Int := if (rt2 a).getD 0 0 % 2 = 1 then tk16 PL (rt2 a) else rt2 a
def rtR (a : List Int) : List Int := if rtOk a = true then rt3 a else Z16

theorem rt2_len (a : List Int) : (rt2 a).length = 16 := by unfold rt2; split <;> exact red_len _
theorem rt2_lm (a : List Int) : Lm (rt2 a) := by unfold rt2; split <;> exact red_lm _
set_option maxHeartbeats 4000000

def lowB (bs : List Int) : List Int := bs.set 31 (bs.getD 31 0 % 128)
def yR (bs : List Int) : List Int := rdL (lowB bs)
def odd6 (bs : List Int) : Int := bs.getD 31 0 / 128
def ovr (y : List Int) : List Int := red (val (red (val y * val y)) - val (lim 16 1))
def und (y : List Int) : List Int := red (val (red (val DL * val (red (val y * val y)))) + val (lim 16 1))
def sqx (y : List Int) : List Int := red (val (ovr y) * val (invF (und y)))
def xR (y : List Int) (o : Int) : List Int := if o = 1 then tk16 PL (rt3 (sqx y)) else rt3 (sqx y)
def okR (y : List Int) (o : Int) : Bool := rtOk (sqx y) && !(decide (rt3 (sqx y) = Z16) && decide (o = 1))
def rdOk6 (bs : List Int) : Bool := decide (bs.length = 32) && decide (val (yR bs) < P25519) && okR (yR bs) (odd6 bs)
def rdX6 (bs : List Int) : List Int := if rdOk6 bs = true then xR (yR bs) (odd6 bs) else []
def rdY6 (bs : List Int) : List Int := if rdOk6 bs = true then yR bs else []
theorem lowB_byte {bs : List Int} (h : ∀ x ∈ bs, 0 ≤ x ∧ x < 256) : ∀ x ∈ lowB bs, 0 ≤ x ∧ x < 256 := by
 intro x hx
 rcases List.mem_or_eq_of_mem_set hx with h1 | rfl
 ·exact h x h1
 ·have := gD_u8 h 31
  omega
theorem yR_len (bs : List Int) : (yR bs).length = 16 := rdL_len _
theorem yR_lm {bs : List Int} (h : ∀ x ∈ bs, 0 ≤ x ∧ x < 256) : Lm (yR bs) := rdL_lm (lowB_byte h)
theorem yR_ok {bs : List Int} (h : ∀ x ∈ bs, 0 ≤ x ∧ x < 256) (hp : val (yR bs) < P25519) : feOk (yR bs) = true := (feOk_iff _).2 ⟨yR_len bs, yR_lm h, hp⟩
theorem odd6_two {bs : List Int} (h : ∀ x ∈ bs, 0 ≤ x ∧ x < 256) : odd6 bs = 0 ∨ odd6 bs = 1 := by
 have := gD_u8 h 31
 unfold odd6
 omega
theorem low_val {l : List Int} (h : l.length = 16) : val l % 2 = l.getD 0 0 % 2 := by
 match l, h with
 | x :: t, _ =>
  show (x + 65536 * val t) % 2 = x % 2
  omega
theorem PL_odd : P25519 % 2 = 1 := by decide
theorem rt2_ok6 (a : List Int) : feOk (rt2 a) = true := by
 rw [feOk_iff]
 refine ⟨rt2_len a, rt2_lm a, ?_⟩
 unfold rt2
 split
 ·unfold rt1; rw [val_red]; exact (red_lt _).2
 ·rw [val_red]; exact (red_lt _).2
theorem rt3_fe (a : List Int) : feOk (rt3 a) = true ∧ val (rt3 a) % 2 = 0 := by
 obtain ⟨h1, h2, h3⟩ := (feOk_iff _).1 (rt2_ok6 a)
 have h0 := val_nonneg (fun x hx => (h2 x hx).1)
 have hl := low_val h1
 have hp := PL_odd
 unfold rt3
 split
 ·rename_i ho
  have hv : val (tk16 PL (rt2 a)) = P25519 - val (rt2 a) := by
   rw [tk16_lim PL_len h1, PL_val, val_lim, p256]
   exact Int.emod_eq_of_lt (by omega) (by unfold P25519; omega)
  refine ⟨(feOk_iff _).2 ⟨by rw [tk16_lim PL_len h1]; exact lim_len _ _, by rw [tk16_lim PL_len h1]; exact lim_lm _ _, by rw [hv]; omega⟩, by rw [hv]; omega⟩
 ·rename_i ho
  exact ⟨rt2_ok6 a, by omega⟩
theorem z16_of {l : List Int} (h : feOk l = true) : l = Z16 ↔ val l = 0 := by
 constructor
 ·rintro rfl; decide
 ·intro hv
  obtain ⟨h1, h2, _⟩ := (feOk_iff l).1 h
  have e := lim_val l h2
  rw [h1, hv] at e
  rw [← e]; decide
theorem xR_ok {y : List Int} {o : Int} (h : okR y o = true) : feOk (xR y o) = true ∧ (xR y o = if o = 1 then red (val (lim 16 0) - val (rt3 (sqx y))) else rt3 (sqx y)) ∧ (o = 0 ∨ o = 1 → val (xR y o) % 2 = o) := by
 obtain ⟨h1, h2⟩ := rt3_fe (sqx y)
 obtain ⟨l1, l2, l3⟩ := (feOk_iff _).1 h1
 have h0 := val_nonneg (fun x hx => (l2 x hx).1)
 have hp := PL_odd
 unfold xR
 by_cases ho : o = 1
 ·rw [if_pos ho, if_pos ho]
  have hz : val (rt3 (sqx y)) ≠ 0 := by
   intro e
   have := (z16_of h1).2 e
   unfold okR at h
   simp [this, ho] at h
  have hv : val (tk16 PL (rt3 (sqx y))) = P25519 - val (rt3 (sqx y)) := by
   rw [tk16_lim PL_len l1, PL_val, val_lim, p256]
   exact Int.emod_eq_of_lt (by omega) (by unfold P25519; omega)
  have hz0 : val (lim 16 0) = 0 := by decide
  refine ⟨(feOk_iff _).2 ⟨by rw [tk16_lim PL_len l1]; exact lim_len _ _, by rw [tk16_lim PL_len l1]; exact lim_lm _ _, by rw [hv]; omega⟩, ?_, fun _ => by rw [hv]; omega⟩
  rw [tk16_lim PL_len l1, PL_val]
  unfold red
  congr 1
  rw [hz0]
  have e : (0 - val (rt3 (sqx y))) % P25519 = (P25519 - val (rt3 (sqx y))) % P25519 := by
   have := Int.add_emod_right (0 - val (rt3 (sqx y))) P25519
   rw [← this]
   congr 1
   omega
  rw [e]
  exact (Int.emod_eq_of_lt (by omega) (by omega)).symm
 ·rw [if_neg ho, if_neg ho]
  exact ⟨h1, rfl, fun h => by omega⟩
theorem rdOk6_parts {bs : List Int} (h : rdOk6 bs = true) : bs.length = 32 ∧ val (yR bs) < P25519 ∧ okR (yR bs) (odd6 bs) = true := by
 unfold rdOk6 at h
 simp only [Bool.and_eq_true, decide_eq_true_eq] at h
 exact ⟨h.1.1, h.1.2, h.2⟩
set_option maxHeartbeats 4000000
set_option linter.unusedSectionVars false

theorem pow_emod6 (x : Int) (n : Nat) : (x % P25519) ^ n % P25519 = x ^ n % P25519 := by
 induction n with
 | zero => simp
 | succ n ih => rw [Int.pow_succ, Int.pow_succ, Int.mul_emod, ih, Int.emod_emod, ← Int.mul_emod]
theorem rtOk_sq {b : Int} (h0 : 0 ≤ b) : rtOk (red (b * b)) = true := by
 have hr : rt1 (red (b * b)) = red ((b * b) ^ eRt) := by
  unfold rt1 red
  rw [show val (lim 16 (b * b % P25519)) = b * b % P25519 from val_red (b * b), pow_emod6]
 have hsq : ∀ x : Int, sqF (red x) = red (x * x) := by
  intro x; unfold sqF; rw [val_red, red, red, ← Int.mul_emod]
 have hmq : red (val (red ((b * b) ^ eRt)) * val QL) = red ((b * b) ^ eRt * qN) := by
  rw [val_red, QL_val, red, red, Int.mul_emod, Int.emod_emod, ← Int.mul_emod]
 unfold rtOk rt2
 rw [hr, hsq]
 by_cases h : red ((b * b) ^ eRt * (b * b) ^ eRt) = red (b * b)
 ·rw [if_pos h, hsq, h]; simp
 ·rw [if_neg h, hmq, hsq]
  rcases root_int h0 with h1 | h1
  ·exact absurd (by unfold red; rw [h1]) h
  ·have : red ((b * b) ^ eRt * qN * ((b * b) ^ eRt * qN)) = red (b * b) := by unfold red; rw [h1]
   rw [this]; simp
section
variable [NeZero pN]
theorem neg_sq (a : KF) : (0 - a) * (0 - a) = a * a := by grind
theorem rt3_fl {a : List Int} (h : rtOk a = true) : fl (rt3 a) * fl (rt3 a) = fl a := by
 have hsq : red (val (rt2 a) * val (rt2 a)) = a := by
  unfold rtOk at h
  exact of_decide_eq_true h
 have h2 : fl (rt2 a) * fl (rt2 a) = fl a := by rw [← fl_mul, hsq]
 obtain ⟨l2, m2, v2⟩ := (feOk_iff _).1 (rt2_ok6 a)
 have n2 := val_nonneg (fun x hx => (m2 x hx).1)
 unfold rt3
 split
 ·have e : fl (tk16 PL (rt2 a)) = 0 - fl (rt2 a) := by
   have hv : val (tk16 PL (rt2 a)) = P25519 - val (rt2 a) := by
    rw [tk16_lim PL_len l2, PL_val, val_lim, p256]
    exact Int.emod_eq_of_lt (by omega) (by unfold P25519; omega)
   unfold fl
   rw [hv, fe_sub]
   have : fe P25519 = 0 := fe_nz.2 (Int.emod_self)
   rw [this]
  rw [e, neg_sq, h2]
 ·exact h2
theorem xR_fl {y : List Int} {o : Int} (h : okR y o = true) : fl (xR y o) * fl (xR y o) = fl (sqx y) := by
 have hk : rtOk (sqx y) = true := by unfold okR at h; simp only [Bool.and_eq_true] at h; exact h.1
 have e := (xR_ok h).2.1
 rw [e]
 split
 ·rw [fl_sub, fl_zero, neg_sq]; exact rt3_fl hk
 ·exact rt3_fl hk
theorem und_ne (y : KF) : dK * (y * y) + 1 ≠ 0 := by
 intro h0
 have hi := im_K
 have h1 : 1 + dK * (y * y) = 0 := by grind
 have : iK * iK = dK * (y * y) := by grind
 have hy := nsq_K _ _ this
 exact one_K (one_nought dK y h1 hy)
theorem sqx_fl (y : List Int) : fl (sqx y) = (fl y * fl y - 1) * ivK (dK * (fl y * fl y) + 1) := by
 unfold sqx ovr und
 rw [fl_mul, fl_sub, fl_mul, fl_inv, fl_add, fl_mul, fl_mul, fl_one, fl_DL]
theorem on_alg {x y d u : KF} (hu : (d * (y * y) + 1) * u = 1) : y * y - x * x = 1 + d * (x * x) * (y * y) ↔ x * x = (y * y - 1) * u := by
 constructor
 ·intro h
  have h2 : x * x * (d * (y * y) + 1) = y * y - 1 := by grind
  have h3 : x * x * ((d * (y * y) + 1) * u) = (y * y - 1) * u := by rw [← h2]; grind
  rw [hu] at h3
  grind
 ·intro h
  have h2 : x * x * (d * (y * y) + 1) = (y * y - 1) * (u * (d * (y * y) + 1)) := by rw [h]; grind
  have h3 : u * (d * (y * y) + 1) = 1 := by grind
  rw [h3] at h2
  grind
theorem on_sqx (x y : List Int) : On dK (fl x, fl y) ↔ fl x * fl x = fl (sqx y) := by
 rw [sqx_fl]
 exact on_alg (ivK_inv _ (und_ne _))
theorem fl_valI {l : List Int} (h : feOk l = true) : ((fl l).val : Int) = val l := by
 obtain ⟨_, h2, h3⟩ := (feOk_iff l).1 h
 unfold fl
 rw [fe_val]
 exact Int.emod_eq_of_lt (val_nonneg (fun x hx => (h2 x hx).1)) h3
theorem pt_rd {zs : List Int} (hb : ∀ x ∈ zs, 0 ≤ x ∧ x < 256) (h : rdOk6 zs = true) : ptOk (rdX6 zs) (rdY6 zs) = true ∧ ptBt (rdX6 zs) (rdY6 zs) = zs ∧ (rdX6 zs).length = 16 ∧ (rdY6 zs).length = 16 := by
 obtain ⟨h1, h2, h3⟩ := rdOk6_parts h
 have hX : rdX6 zs = xR (yR zs) (odd6 zs) := by unfold rdX6; rw [if_pos h]
 have hY : rdY6 zs = yR zs := by unfold rdY6; rw [if_pos h]
 obtain ⟨kx, _, kp⟩ := xR_ok h3
 have ky := yR_ok hb h2
 have hpar := kp (odd6_two hb)
 rw [hX, hY]
 refine ⟨(ptOk_iff _ _).2 ⟨kx, ky, (onB_iff _ _).2 ((on_sqx _ _).2 (xR_fl h3))⟩, ?_, feOk_len kx, feOk_len ky⟩
 have hlen : (lowB zs).length = 32 := by unfold lowB; simp [h1]
 have e : btL (yR zs) = lowB zs := bt_rd hlen (lowB_byte hb)
 have h31 := gD_u8 hb 31
 have hlp := low_val (feOk_len kx)
 have e31 : (lowB zs).getD 31 0 = zs.getD 31 0 % 128 := by unfold lowB; simp [List.getD, h1]
 unfold ptBt
 rw [e, e31, ← hlp, hpar]
 unfold odd6 lowB
 rw [List.set_set]
 have e2 : zs.getD 31 0 % 128 + zs.getD 31 0 / 128 * 128 = zs.getD 31 0 := by omega
 rw [e2]
 have hlt : 31 < zs.length := by omega
 rw [List.getD, List.getElem?_eq_getElem hlt]
 exact List.set_getElem_self hlt
theorem rd_pt {xs ys : List Int} (h : ptOk xs ys = true) : rdOk6 (ptBt xs ys) = true ∧ rdX6 (ptBt xs ys) = xs ∧ rdY6 (ptBt xs ys) = ys := by
 obtain ⟨kx, ky, hon⟩ := (ptOk_iff _ _).1 h
 have lx := feOk_len kx
 have ly := feOk_len ky
 have top := bt_top ky
 have hbl : (btL ys).length = 32 := by rw [btL_len, ly]
 have hlen : (ptBt xs ys).length = 32 := ptBt_len ly
 have hpar : xs.getD 0 0 % 2 = 0 ∨ xs.getD 0 0 % 2 = 1 := by omega
 have g31 : (ptBt xs ys).getD 31 0 = (btL ys).getD 31 0 + xs.getD 0 0 % 2 * 128 := by unfold ptBt; simp [List.getD, hbl]
 have hod : odd6 (ptBt xs ys) = xs.getD 0 0 % 2 := by unfold odd6; rw [g31]; omega
 have hlow : lowB (ptBt xs ys) = btL ys := by
  unfold lowB
  rw [g31, show ((btL ys).getD 31 0 + xs.getD 0 0 % 2 * 128) % 128 = (btL ys).getD 31 0 by omega]
  unfold ptBt
  rw [List.set_set]
  have hlt : 31 < (btL ys).length := by omega
  rw [List.getD, List.getElem?_eq_getElem hlt]
  exact List.set_getElem_self hlt
 have hy : yR (ptBt xs ys) = ys := by unfold yR; rw [hlow]; exact rd_bt ly
 have hsq : fl xs * fl xs = fl (sqx ys) := (on_sqx _ _).1 ((onB_iff _ _).1 hon)
 have hs2 : sqx ys = red (val xs * val xs) := by
  refine fl_inj (ok_red _) (ok_red _) ?_
  rw [fl_mul]; exact hsq.symm
 have h0 := val_nonneg (fun x hx => ((feOk_iff xs).1 kx).2.1 x hx |>.1)
 have hrt : rtOk (sqx ys) = true := by rw [hs2]; exact rtOk_sq h0
 have hlp := low_val lx
 have hok : okR ys (xs.getD 0 0 % 2) = true := by
  unfold okR
  rw [hrt]
  by_cases hz : rt3 (sqx ys) = Z16
  ·have hr := rt3_fl hrt
   have hz0 : fl Z16 = 0 := by
    have hh : lim 16 0 = Z16 := by decide
    rw [← hh]; exact fl_zero
   rw [hz, hz0, ← hsq] at hr
   have hx0 : fl xs = 0 := by
    have : fl xs * fl xs = 0 := by rw [← hr]; grind
    rcases nz_K this with h | h <;> exact h
   have hv := fl_valI kx
   rw [hx0] at hv
   have hv0 : val xs = 0 := by rw [← hv]; rfl
   have : xs.getD 0 0 % 2 = 0 := by rw [← hlp, hv0]; rfl
   rw [this]
   simp
  ·simp [hz]
 obtain ⟨kr, _, kp⟩ := xR_ok hok
 have hp := kp hpar
 have hx : xR ys (xs.getD 0 0 % 2) = xs := by
  refine fl_inj kr kx (root_one ?_ ?_)
  ·rw [xR_fl hok, hsq]
  ·rw [fl_valI kr, fl_valI kx, hp, hlp]
 have hr : rdOk6 (ptBt xs ys) = true := by
  unfold rdOk6
  rw [hy, hod, hok, hlen]
  simp [((feOk_iff ys).1 ky).2.2]
 exact ⟨hr, by unfold rdX6; rw [if_pos hr, hy, hod, hx], by unfold rdY6; rw [if_pos hr, hy]⟩
end
end Go.Proofs.YtihoaakbkffejaaGreatDoor

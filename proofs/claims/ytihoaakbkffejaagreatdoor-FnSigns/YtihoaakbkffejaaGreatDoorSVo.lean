/-
  What is proved here: the contract of the program's Sign where the seed has 32 bytes and the message is not too long; where its variables hold what its text lays.
-/
import Derived.Test.YtihoaakbkffejaaGreatDoorSVh
import Derived.Test.YtihoaakbkffejaaGreatDoorSQh
import Derived.Test.YtihoaakbkffejaaGreatDoorSVx
import Derived.Test.YtihoaakbkffejaaGreatDoorSQja
namespace Go.Proofs.YtihoaakbkffejaaGreatDoor
open Go.RowKit
set_option maxRecDepth 100000
abbrev qVo0 : Oper := { dst := some 33, op := Op.move (Operand.tmp 43), type := 42, pos := "l07_sign.go:59", after := #[{ on := 9, ground := Ground.data }], guard := none }
abbrev qVo1 : Oper := { dst := some 44, op := Op.extract (Operand.tmp 33) 0, type := 41, pos := "l07_sign.go:59", after := #[{ on := 10, ground := Ground.data }], guard := none }
abbrev qVo2 : Oper := { dst := some 45, op := Op.extract (Operand.tmp 33) 1, type := 4, pos := "l07_sign.go:59", after := #[{ on := 10, ground := Ground.data }, { on := 14, ground := Ground.gcOnly Departure.lateStores }], guard := none }
abbrev qVo3 : Oper := { dst := none, op := Op.store 41 (Operand.tmp 10) (Operand.tmp 44), type := 0, pos := "l07_sign.go:59", after := #[{ on := 13, ground := Ground.data }, { on := 11, ground := Ground.data }, { on := 9, ground := Ground.chain }, { on := 0, ground := Ground.phase }, { on := 1, ground := Ground.phase }, { on := 2, ground := Ground.phase }, { on := 3, ground := Ground.phase }, { on := 4, ground := Ground.phase }, { on := 5, ground := Ground.phase }, { on := 6, ground := Ground.phase }, { on := 7, ground := Ground.phase }, { on := 8, ground := Ground.phase }, { on := 9, ground := Ground.phase }, { on := 10, ground := Ground.phase }, { on := 11, ground := Ground.phase }, { on := 12, ground := Ground.textOnly Departure.lateStores }, { on := 13, ground := Ground.phase }], guard := none }

theorem range_fst {W : World} {b : Nat} {t : TypeId} {x : Value} {xs : List Value} (h : Arr W b t (x :: xs)) : W.rangeAt b 0 [x] := by
 intro j v hj
 have := h.cell (0 + j)
 rw [this]
 match j, hj with
 | 0, hj => simpa using hj
/-- The program's product and sum of multipliers that are right. -/
theorem oScMul (a : Option Addr) (c : Nat) (xs : List Int) (b : Option Addr) (d : Nat) (ys : List Int) (w : World) (hx : Is w a 16 c xs) (hy : Is w b 16 d ys) (h1 : scOk xs = true) (h2 : scOk ys = true) (hG : VarsOk w) :
  Calls Tryz.prog 37 #[.agg #[.slice a 16 c], .agg #[.slice b 16 d]] w fun e w' => ∃ a1 c1, e = .returned (.tuple #[.agg #[.slice a1 16 c1], .bool true]) ∧ w'.ownsRow w.heap.size 65 1 (.slice a1 16 c1) 16 (I64 (redO (val xs * val ys))) ∧ Below w.heap.size w w' := by
 refine (implScMul a 16 c xs b 16 d ys w hx hy hG.O).mono ?_
 rintro e z ⟨v, rfl, ⟨a1, c1, rfl, oo⟩, hb⟩
 have e2 : sc2 (fun x y => x * y) xs ys = redO (val xs * val ys) := by unfold sc2; rw [if_pos (by rw [h1, h2]; rfl)]
 rw [e2, redO_len] at oo ⊢
 rw [h1, h2]
 exact ⟨a1, c1, rfl, oo, hb⟩
theorem oScAdd (a : Option Addr) (c : Nat) (xs : List Int) (b : Option Addr) (d : Nat) (ys : List Int) (w : World) (hx : Is w a 16 c xs) (hy : Is w b 16 d ys) (h1 : scOk xs = true) (h2 : scOk ys = true) (hG : VarsOk w) :
  Calls Tryz.prog 38 #[.agg #[.slice a 16 c], .agg #[.slice b 16 d]] w fun e w' => ∃ a1 c1, e = .returned (.tuple #[.agg #[.slice a1 16 c1], .bool true]) ∧ w'.ownsRow w.heap.size 65 1 (.slice a1 16 c1) 16 (I64 (redO (val xs + val ys))) ∧ Below w.heap.size w w' := by
 refine (implScAdd a 16 c xs b 16 d ys w hx hy hG.O).mono ?_
 rintro e z ⟨v, rfl, ⟨a1, c1, rfl, oo⟩, hb⟩
 have e2 : sc2 (fun x y => x + y) xs ys = redO (val xs + val ys) := by unfold sc2; rw [if_pos (by rw [h1, h2]; rfl)]
 rw [e2, redO_len] at oo ⊢
 rw [h1, h2]
 exact ⟨a1, c1, rfl, oo, hb⟩

section
variable [NeZero pN]
set_option maxHeartbeats 8000000 in
theorem implSignYes (a : Option Addr) (c : Nat) (bs : List Int) (b : Option Addr) (n d : Nat) (ms : List Int) (w : World) (hx : Bs w a 32 c bs) (hy : Bs w b n d ms) (hn : n ≤ 2000) (hG : VarsOk w) :
  Calls Tryz.prog 8 #[.slice a 32 c, .slice b n d] w fun e w' => ∃ v, e = .returned (.tuple #[v, .bool true]) ∧ w'.ownsRow w.heap.size 5 1 v 64 (U8 (sgB bs ms)) ∧ Below w.heap.size w w' := by
 obtain ⟨S, eS⟩ : ∃ x, x = sumOfW bs := ⟨_, rfl⟩
 obtain ⟨K, eK⟩ : ∃ x, x = redO (val (sA bs)) := ⟨_, rfl⟩
 obtain ⟨r, er⟩ : ∃ x, x = sgR bs ms := ⟨_, rfl⟩
 obtain ⟨F, eF⟩ : ∃ x, x = sgF bs ms := ⟨_, rfl⟩
 obtain ⟨Q, eQ⟩ : ∃ x, x = baseB (val K).toNat := ⟨_, rfl⟩
 obtain ⟨k, ek⟩ : ∃ x, x = sgK bs ms := ⟨_, rfl⟩
 obtain ⟨pd, epd⟩ : ∃ x, x = redO (val k * val K) := ⟨_, rfl⟩
 obtain ⟨s, es⟩ : ∃ x, x = sgS bs ms := ⟨_, rfl⟩
 have eQ2 : Q = baseB (val (sA bs)).toNat := by
  have h1 := (lm_256 (sA_len bs) (sA_lm bs)).1
  obtain ⟨N, hN⟩ := Int.eq_ofNat_of_zero_le h1
  rw [eQ, eK, val_redO, qO_oN, ← baseB_red (val (sA bs)).toNat, hN, ← Int.natCast_emod]; rfl
 have hn1 : bs.length = 32 := hx.2.1
 have oK : scOk K = true := by rw [eK]; exact redO_ok _
 have okr : scOk r = true := by rw [er, sgR]; exact mS_ok _
 have okk : scOk k = true := by rw [ek, sgK]; exact mS_ok _
 have okp : scOk pd = true := by rw [epd]; exact redO_ok _
 have oks : scOk s = true := by rw [es, sgS]; exact redO_ok _
 have NIr : Hid _ := sc_int okr
 have NIk : Hid _ := sc_int okk
 have NIpd : Hid _ := sc_int okp
 have NIs : Hid _ := sc_int oks
 have HS : Hid (∀ Z, Below w.heap.size w Z → Calls Tryz.prog 34 #[.slice a 32 c] Z fun e w' => ∃ ac cc ab cb, e = .returned (.tuple #[.agg #[.slice ac 16 cc, .slice ab 32 cb], .bool true]) ∧ Is w' ac 16 cc K ∧ Bs w' ab 32 cb (S.drop 32) ∧ Below Z.heap.size Z w') := by unfold Hid; intro Z hZ; rw [eK, eS]; exact implSecret a c bs Z (hx.below hZ) (hG.kept hZ)
 have HR : Hid (∀ g ab cb Z, Below w.heap.size w Z → g < Z.heap.size → Z.cell? ⟨g, 0, none⟩ = some (.slice ab 32 cb) → Z.cell? ⟨g, 1, none⟩ = some (.slice b n d) → Bs Z ab 32 cb (S.drop 32) → Calls Tryz.prog 35 #[.slice (some ⟨g, 0, none⟩) 2 2] Z fun e w' => ∃ a' c', e = .returned (.agg #[.slice a' 16 c']) ∧ w'.ownsRow Z.heap.size 65 1 (.slice a' 16 c') 16 (I64 r) ∧ Below Z.heap.size Z w') := by unfold Hid; intro g ab cb Z hZ hg q0 q1 h0; rw [er, sgR, ← eS]; exact implMSum2 g ab 32 cb _ b n d ms Z hg q0 q1 h0 (hy.below hZ) (by omega) (hG.kept hZ)
 have HF : Hid (∀ ak ck Z, Below w.heap.size w Z → Is Z ak 16 ck r → Calls Tryz.prog 36 #[.agg #[.slice ak 16 ck]] Z fun e w' => ∃ a' c', e = .returned (.slice a' 32 c') ∧ w'.ownsRow Z.heap.size 5 1 (.slice a' 32 c') 32 (U8 F) ∧ Below Z.heap.size Z w') := by
  unfold Hid; intro ak ck Z hZ h; rw [show F = baseB (val r).toNat by rw [eF, sgF, er]]; refine (implBaseTimes ak ck r Z h okr (hG.kept hZ)).mono ?_; rintro e w' ⟨v, rfl, ho, hb⟩; obtain ⟨a', c', rfl, _, _⟩ := Bs.own ho (baseB_byte _); exact ⟨a', c', rfl, ho, hb⟩
 have HQ : Hid (∀ ak ck Z, Below w.heap.size w Z → Is Z ak 16 ck K → Calls Tryz.prog 36 #[.agg #[.slice ak 16 ck]] Z fun e w' => ∃ a' c', e = .returned (.slice a' 32 c') ∧ w'.ownsRow Z.heap.size 5 1 (.slice a' 32 c') 32 (U8 Q) ∧ Below Z.heap.size Z w') := by
  unfold Hid; intro ak ck Z hZ h; rw [eQ]; refine (implBaseTimes ak ck K Z h oK (hG.kept hZ)).mono ?_; rintro e w' ⟨v, rfl, ho, hb⟩; obtain ⟨a', c', rfl, _, _⟩ := Bs.own ho (baseB_byte _); exact ⟨a', c', rfl, ho, hb⟩
 have HK : Hid (∀ g a1 c1 a2 c2 Z, Below w.heap.size w Z → g < Z.heap.size → Z.cell? ⟨g, 0, none⟩ = some (.slice a1 32 c1) → Z.cell? ⟨g, 1, none⟩ = some (.slice a2 32 c2) → Z.cell? ⟨g, 2, none⟩ = some (.slice b n d) → Bs Z a1 32 c1 F → Bs Z a2 32 c2 Q → Calls Tryz.prog 35 #[.slice (some ⟨g, 0, none⟩) 3 3] Z fun e w' => ∃ a' c', e = .returned (.agg #[.slice a' 16 c']) ∧ w'.ownsRow Z.heap.size 65 1 (.slice a' 16 c') 16 (I64 k) ∧ Below Z.heap.size Z w') := by unfold Hid; intro g a1 c1 a2 c2 Z hZ hg q0 q1 q2 h0 h1; rw [ek, sgK, ← eF, ← eQ2]; exact implMSum3 g a1 32 c1 _ a2 32 c2 _ b n d ms Z hg q0 q1 q2 h0 h1 (hy.below hZ) (by omega) (hG.kept hZ)
 have HM : Hid (∀ a1 c1 a2 c2 Z, Below w.heap.size w Z → Is Z a1 16 c1 k → Is Z a2 16 c2 K → Calls Tryz.prog 37 #[.agg #[.slice a1 16 c1], .agg #[.slice a2 16 c2]] Z fun e w' => ∃ a' c', e = .returned (.tuple #[.agg #[.slice a' 16 c'], .bool true]) ∧ w'.ownsRow Z.heap.size 65 1 (.slice a' 16 c') 16 (I64 pd) ∧ Below Z.heap.size Z w') := by unfold Hid; intro a1 c1 a2 c2 Z hZ h1 h2; rw [epd]; exact oScMul a1 c1 k a2 c2 K Z h1 h2 okk oK (hG.kept hZ)
 have HD : Hid (∀ a1 c1 a2 c2 Z, Below w.heap.size w Z → Is Z a1 16 c1 r → Is Z a2 16 c2 pd → Calls Tryz.prog 38 #[.agg #[.slice a1 16 c1], .agg #[.slice a2 16 c2]] Z fun e w' => ∃ a' c', e = .returned (.tuple #[.agg #[.slice a' 16 c'], .bool true]) ∧ w'.ownsRow Z.heap.size 65 1 (.slice a' 16 c') 16 (I64 s) ∧ Below Z.heap.size Z w') := by unfold Hid; intro a1 c1 a2 c2 Z hZ h1 h2; rw [es, sgS, ← er, ← ek, ← eK, ← epd]; exact oScAdd a1 c1 r a2 c2 pd Z h1 h2 okr okp (hG.kept hZ)
 have HZ : Hid (∀ a1 c1 Z, Below w.heap.size w Z → Is Z a1 16 c1 s → Calls Tryz.prog 40 #[.agg #[.slice a1 16 c1]] Z fun e w' => ∃ a' c', e = .returned (.slice a' 32 c') ∧ Bs w' a' 32 c' (btL s) ∧ Below Z.heap.size Z w') := by
  unfold Hid; intro a1 c1 Z hZ h; refine (implScBytes a1 16 c1 s Z h (hG.kept hZ).O).mono ?_; rintro e w' ⟨v, rfl, ho, hb⟩
  obtain ⟨ls, lms, _⟩ := (scOk_iff s).1 oks
  have e1 : btFO s = btL s := by unfold btFO; rw [if_pos oks]
  rw [e1, btL_len, ls] at ho; obtain ⟨a', c', rfl, _, hB⟩ := Bs.own ho (btL_byte lms); exact ⟨a', c', rfl, hB, hb⟩
 have hE : sgB bs ms = F ++ btL s := by rw [eF, es]; rfl
 rw [hE]
 have HFB : Hid (∀ x ∈ F, 0 ≤ x ∧ x < 256) := by unfold Hid; rw [eF]; exact baseB_byte _
 have HQB : Hid (∀ x ∈ Q, 0 ≤ x ∧ x < 256) := by unfold Hid; rw [eQ]; exact baseB_byte _
 have hle : ¬ ((2000 : Int) < (n : Int)) := by omega
 have huS : Tryz.prog.underlying 41 = some _ := Tryz.underlying41
 clear hE eS eK er eF eQ eQ2 ek epd es oK okr okk okp oks hx hG hy
 obtain ⟨W, hW⟩ : ∃ W, W = w := ⟨_, rfl⟩
 have fr : Below w.heap.size w W := by rw [hW]; exact (Below.refl _ _)
 go_enter Tryz.func8, Tryz.ntmps8
 go_upto_region 1 with fail
 rw [← hW]
 clear hW
 go_wp2_with fail
 refine (HS.out _ fr).mono ?_
 rintro e y1 ⟨ac, cc, ab, cb, rfl, hI, hBl, hb1⟩
 replace fr := fr.trans (hb1.mono fr.size)
 clear hb1
 go_upto_region 2 with fail
 obtain ⟨Z1, hV⟩ : ∃ Z, Z = y1.alloc (.cells #[.slice ac 16 cc, .slice ab 32 cb] 57) := ⟨_, rfl⟩
 have bV : Below y1.heap.size y1 Z1 := by rw [hV]; exact (Below.refl _ _).alloc (Nat.le_refl _) _
 have Ao : Arr Z1 y1.heap.size 57 [.slice ac 16 cc, .slice ab 32 cb] := by rw [hV]; exact Arr.new _ _ _
 rw [← hV]
 replace fr := fr.trans (bV.mono fr.size)
 replace hI := hI.below bV
 replace hBl := hBl.below bV
 clear hV bV
 obtain ⟨Xo, hXo⟩ : ∃ X, X = y1.heap.size := ⟨_, rfl⟩
 rw [← hXo] at Ao ⊢
 clear hXo
 have c1 : Z1.cell? ⟨Xo, 1, none⟩ = some (.slice ab 32 cb) := Ao.cell 1
 go_wp2_with fail
 obtain ⟨Z2, hV⟩ : ∃ Z, Z = Z1.alloc (.cells #[.slice ab 32 cb, .slice b n d] 22) := ⟨_, rfl⟩
 have bV : Below Z1.heap.size Z1 Z2 := by rw [hV]; exact (Below.refl _ _).alloc (Nat.le_refl _) _
 have Aq : Arr Z2 Z1.heap.size 22 [.slice ab 32 cb, .slice b n d] := by rw [hV]; exact Arr.new _ _ _
 rw [← hV]
 replace fr := fr.trans (bV.mono fr.size)
 replace hI := hI.below bV
 replace hBl := hBl.below bV
 replace Ao := Ao.kept bV
 clear hV bV
 clear c1
 refine (HR.out _ _ _ _ fr Aq.lt (Aq.cell 0) (Aq.cell 1) hBl).mono ?_
 rintro e y2 ⟨ar, cr, rfl, oR, hb2⟩
 replace fr := fr.trans (hb2.mono fr.size)
 replace hI := hI.below hb2
 replace hBl := hBl.below hb2
 replace Ao := Ao.kept hb2
 clear hb2
 have hr := is_of_own oR NIr.out
 clear oR Aq
 clear hBl
 go_upto_region 5 with fail
 obtain ⟨Z3, hV⟩ : ∃ Z, Z = y2.alloc (.cells #[.slice ar 16 cr] 41) := ⟨_, rfl⟩
 have bV : Below y2.heap.size y2 Z3 := by rw [hV]; exact (Below.refl _ _).alloc (Nat.le_refl _) _
 have Ar : Arr Z3 y2.heap.size 41 [.slice ar 16 cr] := by rw [hV]; exact Arr.new _ _ _
 rw [← hV]
 replace fr := fr.trans (bV.mono fr.size)
 replace hI := hI.below bV
 replace Ao := Ao.kept bV
 replace hr := hr.below bV
 clear hV bV
 obtain ⟨Xr, hXr⟩ : ∃ X, X = y2.heap.size := ⟨_, rfl⟩
 rw [← hXr] at Ar ⊢
 clear hXr
 have c1 : Z3.cell? ⟨Xr, 0, none⟩ = some (.slice ar 16 cr) := Ar.cell 0
 go_wp2_with fail
 clear c1
 have zF := fr.size
 refine (HF.out _ _ _ fr hr).mono ?_
 rintro e y3 ⟨aF, cF, rfl, oF, hb3⟩
 replace fr := fr.trans (hb3.mono fr.size)
 replace hI := hI.below hb3
 replace Ao := Ao.kept hb3
 replace hr := hr.below hb3
 replace Ar := Ar.kept hb3
 clear hb3
 have hF := bs_of_own oF HFB.out
 clear oF
 go_upto_region 6 with fail
 obtain ⟨L6, hL6⟩ : ∃ Z, Z = y3 := ⟨_, rfl⟩
 rw [← hL6] at fr hI Ao hr Ar hF ⊢
 clear hL6
 have fr0 := fr
 have Ao0 := Ao
 have hlo := Ao0.lt
 have bL : Below L6.heap.size L6 L6 := Below.refl _ _
 have hws := fr0.size
 clear fr
 clear Ao
 try simp only [Act.put]
 go_cut [10] from 33 (fun s10 wc => ∃ (Xp : Nat) (aP : Option Addr) (cP : Nat), s10 = .pointer (some ⟨Xp, 0, none⟩) ∧ Arr wc Xp 41 [.slice aP 16 cP] ∧ Is wc aP 16 cP pd ∧ Below L6.heap.size L6 wc)
 case first =>
  try simp only [Act.put]
  have bD : Below L6.heap.size L6 L6.drew := (Below.refl _ _).drew
  replace bL := bL.trans (bD.mono bL.size)
  clear bD
  refine wp_region_held_drew (S := fun W => W.rangeAt Xo 0 [.slice ac 16 cc]) (by kernel_rfl) (range_fst (Ao0.kept bL)) (fun hHeld => ?_)
  obtain ⟨D4, hD⟩ : ∃ V, V = L6.drew := ⟨_, rfl⟩
  rw [← hD] at hHeld bL ⊢
  clear hD
  refine wpAnyH_take (i := 0) (oi := { dst := some 34, op := Op.move (Operand.tmp 9), type := 22, pos := "l07_sign.go:59", after := #[], guard := none }) (v := .slice aF 32 cF) rfl (by kernel_rfl) (by kernel_rfl) (by kernel_rfl) (fun _ _ _ h => h) (.inl ⟨by rfl, fun _ _ => by rfl⟩) (by assumption) ?_
  simp only [Act.put, List.setIfInBounds_toArray, List.set_cons_zero, List.set_cons_succ]
  refine wpAnyH_take (i := 1) (oi := { dst := some 35, op := Op.fieldAddr 57 (Operand.tmp 6) 0, type := 0, pos := "l07_sign.go:59", after := #[], guard := none }) (v := .pointer (some ⟨Xo, 0, none⟩)) rfl (by kernel_rfl) (by kernel_rfl) (by kernel_rfl) (fun _ _ _ h => h) (.inl ⟨by rfl, fun _ _ => by rfl⟩) (by assumption) ?_
  simp only [Act.put, List.setIfInBounds_toArray, List.set_cons_zero, List.set_cons_succ]
  refine wpAnyH_take (i := 2) (oi := { dst := some 36, op := Op.load 41 (Operand.tmp 35), type := 41, pos := "l07_sign.go:59", after := #[{ on := 1, ground := Ground.data }], guard := none }) (v := _) rfl (by kernel_rfl) (by kernel_rfl) (by kernel_rfl) (fun _ _ _ h => h) (yieldsIf_load_mid (by rfl) _ _ rfl _ _ rfl ([.slice ac 16 cc]) _ (fun _ h => h) huS rfl infoSc) (by assumption) ?_
  simp only [Act.put, List.setIfInBounds_toArray, List.set_cons_zero, List.set_cons_succ]
  refine wpAnyH_take (i := 4) (oi := { dst := some 38, op := Op.move (Operand.tmp 1), type := 22, pos := "l07_sign.go:59", after := #[], guard := none }) (v := .slice b n d) rfl (by kernel_rfl) (by kernel_rfl) (by kernel_rfl) (fun _ _ _ h => h) (.inl ⟨by rfl, fun _ _ => by rfl⟩) (by assumption) ?_
  simp only [Act.put, List.setIfInBounds_toArray, List.set_cons_zero, List.set_cons_succ]
  refine wpAnyH_take (i := 7) (oi := { dst := some 41, op := Op.fieldAddr 57 (Operand.tmp 6) 0, type := 0, pos := "l07_sign.go:59", after := #[], guard := none }) (v := .pointer (some ⟨Xo, 0, none⟩)) rfl (by kernel_rfl) (by kernel_rfl) (by kernel_rfl) (fun _ _ _ h => h) (.inl ⟨by rfl, fun _ _ => by rfl⟩) (by assumption) ?_
  simp only [Act.put, List.setIfInBounds_toArray, List.set_cons_zero, List.set_cons_succ]
  refine wpAnyH_take (i := 8) (oi := { dst := some 42, op := Op.load 41 (Operand.tmp 41), type := 41, pos := "l07_sign.go:59", after := #[{ on := 7, ground := Ground.data }], guard := none }) (v := _) rfl (by kernel_rfl) (by kernel_rfl) (by kernel_rfl) (fun _ _ _ h => h) (yieldsIf_load_mid (by rfl) _ _ rfl _ _ rfl ([.slice ac 16 cc]) _ (fun _ h => h) huS rfl infoSc) (by assumption) ?_
  simp only [Act.put, List.setIfInBounds_toArray, List.set_cons_zero, List.set_cons_succ]
  refine wpAnyH_ready (rs := [3, 13]) (by kernel_rfl) (by simp) (AllReadyH.cons (o := { dst := some 37, op := Op.call { callee := Callee.value (Operand.func 36), args := #[Operand.tmp 36], argTypes := #[41] }, type := 22, pos := "l07_sign.go:59", after := #[{ on := 2, ground := Ground.data }], guard := none }) rfl (fun K hK => ?_) (AllReadyH.cons (o := { dst := some 10, op := Op.alloc 41, type := 0, pos := "l07_sign.go:59", after := #[], guard := none }) rfl (fun K hK => ?_) AllReadyH.nil))
  ·skip
   go_simp
   have zzD4 := bL.size
   refine (HQ.out _ _ _ (fr0.trans (bL.mono fr0.size)) (hI.below bL)).mono ?_
   rintro e y5 ⟨aQ, cQ, rfl, oQ, hb5⟩
   replace bL := bL.trans (hb5.mono bL.size)
   clear hb5
   have hQ := bs_of_own oQ HQB.out
   clear oQ
   go_wp2_with fail
   refine hK.out _ _ (range_fst (Ao0.kept bL)) (fun hHeld => ?_)
   clear hK K
   refine wpAnyH_ready (rs := [5, 13]) (by kernel_rfl) (by simp) (AllReadyH.cons (o := { dst := some 39, op := Op.buildSlice 126 3 #[(0, Operand.tmp 34), (1, Operand.tmp 37), (2, Operand.tmp 38)], type := 126, pos := "l07_sign.go:59", after := #[{ on := 0, ground := Ground.data }, { on := 3, ground := Ground.data }, { on := 4, ground := Ground.data }], guard := none }) rfl (fun K hK => ?_) (AllReadyH.cons (o := { dst := some 10, op := Op.alloc 41, type := 0, pos := "l07_sign.go:59", after := #[], guard := none }) rfl (fun K hK => ?_) AllReadyH.nil))
   ·skip
    go_simp
    obtain ⟨V6, hVe⟩ : ∃ V, V = y5.alloc (.cells #[.slice aF 32 cF, .slice aQ 32 cQ, .slice b n d] 22) := ⟨_, rfl⟩
    have bV : Below y5.heap.size y5 V6 := by rw [hVe]; exact (Below.refl _ _).alloc (Nat.le_refl _) _
    have Ab : Arr V6 y5.heap.size 22 ([.slice aF 32 cF, .slice aQ 32 cQ, .slice b n d]) := by rw [hVe]; exact Arr.new _ ([.slice aF 32 cF, .slice aQ 32 cQ, .slice b n d]) _
    have hXb : y5.heap.size ≤ y5.heap.size := Nat.le_refl _
    obtain ⟨Xb, hXe⟩ : ∃ X, X = y5.heap.size := ⟨_, rfl⟩
    have sXb : y5.heap.size ≤ Xb := Nat.le_of_eq hXe.symm
    have uXbbL := bL.size
    replace bL := bL.trans (bV.mono bL.size)
    replace hQ := hQ.below bV
    rw [← hVe]
    rw [← hXe] at Ab hXb ⊢
    clear hVe hXe bV
    refine hK.out _ _ (range_fst (Ao0.kept bL)) (fun hHeld => ?_)
    clear hK K
    refine wpAnyH_ready (rs := [6, 13]) (by kernel_rfl) (by simp) (AllReadyH.cons (o := { dst := some 40, op := Op.call { callee := Callee.value (Operand.func 35), args := #[Operand.tmp 39], argTypes := #[126] }, type := 41, pos := "l07_sign.go:59", after := #[{ on := 5, ground := Ground.data }, { on := 3, ground := Ground.chain }], guard := none }) rfl (fun K hK => ?_) (AllReadyH.cons (o := { dst := some 10, op := Op.alloc 41, type := 0, pos := "l07_sign.go:59", after := #[], guard := none }) rfl (fun K hK => ?_) AllReadyH.nil))
    ·skip
     go_simp
     have zzV6 := bL.size
     refine (HK.out _ _ _ _ _ _ (fr0.trans (bL.mono fr0.size)) Ab.lt (Ab.cell 0) (Ab.cell 1) (Ab.cell 2) (hF.below bL) hQ).mono ?_
     rintro e y7 ⟨aK, cK, rfl, oK, hb7⟩
     replace bL := bL.trans (hb7.mono bL.size)
     replace hQ := hQ.below hb7
     replace Ab := Ab.kept hb7
     clear hb7
     have hk := is_of_own oK NIk.out
     clear oK
     go_wp2_with fail
     refine hK.out _ _ (range_fst (Ao0.kept bL)) (fun hHeld => ?_)
     clear hK K
     refine wpAnyH_ready (rs := [9, 13]) (by kernel_rfl) (by simp) (AllReadyH.cons (o := { dst := some 43, op := Op.call { callee := Callee.value (Operand.func 37), args := #[Operand.tmp 40, Operand.tmp 42], argTypes := #[41, 41] }, type := 42, pos := "l07_sign.go:59", after := #[{ on := 6, ground := Ground.data }, { on := 8, ground := Ground.data }, { on := 6, ground := Ground.chain }], guard := none }) rfl (fun K hK => ?_) (AllReadyH.cons (o := { dst := some 10, op := Op.alloc 41, type := 0, pos := "l07_sign.go:59", after := #[], guard := none }) rfl (fun K hK => ?_) AllReadyH.nil))
     ·skip
      go_simp
      have zzy7 := bL.size
      refine (HM.out _ _ _ _ _ (fr0.trans (bL.mono fr0.size)) hk (hI.below bL)).mono ?_
      rintro e y8 ⟨aP, cP, rfl, oP, hb8⟩
      replace bL := bL.trans (hb8.mono bL.size)
      replace hQ := hQ.below hb8
      replace Ab := Ab.kept hb8
      replace hk := hk.below hb8
      clear hb8
      have iP := In.of oP
      clear hk
      have zq := bL.size
      go_wp2_with fail
      refine hK.out _ _ (range_fst (Ao0.kept bL)) (fun hHeld => ?_)
      clear hK K
      refine wpAnyH_take (i := 10) (oi := qVo0) (v := .tuple #[.agg #[.slice aP 16 cP], .bool true]) rfl (by kernel_rfl) (by kernel_rfl) (by kernel_rfl) (fun _ _ _ h => h) (.inl ⟨by rfl, fun _ _ => by rfl⟩) (by assumption) ?_
      simp only [Act.put, List.setIfInBounds_toArray, List.set_cons_zero, List.set_cons_succ]
      refine wpAnyH_take (i := 11) (oi := qVo1) (v := .agg #[.slice aP 16 cP]) rfl (by kernel_rfl) (by kernel_rfl) (by kernel_rfl) (fun _ _ _ h => h) (.inl ⟨by rfl, fun _ _ => by rfl⟩) (by assumption) ?_
      simp only [Act.put, List.setIfInBounds_toArray, List.set_cons_zero, List.set_cons_succ]
      refine wpAnyH_take (i := 12) (oi := qVo2) (v := .bool true) rfl (by kernel_rfl) (by kernel_rfl) (by kernel_rfl) (fun _ _ _ h => h) (.inl ⟨by rfl, fun _ _ => by rfl⟩) (by assumption) ?_
      simp only [Act.put, List.setIfInBounds_toArray, List.set_cons_zero, List.set_cons_succ]
      refine wpAnyH_ready (rs := [13]) (by kernel_rfl) (by simp) (AllReadyH.cons (o := { dst := some 10, op := Op.alloc 41, type := 0, pos := "l07_sign.go:59", after := #[], guard := none }) rfl (fun K hK => ?_) AllReadyH.nil)
      go_simp
      obtain ⟨V9, hVe⟩ : ∃ V, V = y8.alloc (.cells #[.slice none 0 0] 41) := ⟨_, rfl⟩
      have bV : Below y8.heap.size y8 V9 := by rw [hVe]; exact (Below.refl _ _).alloc (Nat.le_refl _) _
      have Ap : Arr V9 y8.heap.size 41 ([.slice none 0 0]) := by rw [hVe]; exact Arr.new _ ([.slice none 0 0]) _
      have hXp : Xb < y8.heap.size ∧ True := ⟨Ab.lt, trivial⟩
      obtain ⟨Xp, hXe⟩ : ∃ X, X = y8.heap.size := ⟨_, rfl⟩
      have sXp : y8.heap.size ≤ Xp := Nat.le_of_eq hXe.symm
      have uXpbL := bL.size
      replace bL := bL.trans (bV.mono bL.size)
      replace hQ := hQ.below bV
      replace Ab := Ab.kept bV
      replace oP := own_below oP bV
      rw [← hVe]
      rw [← hXe] at Ap hXp ⊢
      clear hVe hXe bV
      refine hK.out _ _ (range_fst (Ao0.kept bL)) (fun hHeld => ?_)
      clear hK K
      refine wpAnyH_ready (rs := [14]) (by kernel_rfl) (by simp) (AllReadyH.cons (o := qVo3) rfl (fun K hK => ?_) AllReadyH.nil)
      rw [if_pos (by rfl)]
      refine wp_store_mid _ _ _ rfl _ _ ([.slice aP 16 cP]).toArray rfl rfl (by have := arr_there Ap; simpa using this) infoSc (all_oneCell_toArray (by simp [Value.oneCell'])) ?_
      simp only [Act.put]
      replace oP := own_setCells oP iP (E := Xp) (by omega) ([.slice aP 16 cP])
      replace Ap := Ap.sc0 ([.slice aP 16 cP]) (by simp)
      replace bL := bel_sc bL Xp ([.slice aP 16 cP]) (by omega)
      obtain ⟨V10, hVe⟩ : ∃ V, V = V9.setCells Xp 0 ([.slice aP 16 cP]) := ⟨_, rfl⟩
      rw [← hVe] at oP Ap bL ⊢
      clear hVe
      clear hQ
      clear Ab
      refine hK.out _ _ (range_fst (Ao0.kept bL)) (fun hHeld => ?_)
      clear hK K
      refine wpAnyH_ready (rs := [15]) (by kernel_rfl) (by simp) (AllReadyH.cons (o := { dst := some 11, op := Op.assign (Operand.tmp 45), type := 4, pos := "l07_sign.go:59", after := #[{ on := 12, ground := Ground.data }, { on := 14, ground := Ground.chain }, { on := 0, ground := Ground.phase }, { on := 1, ground := Ground.phase }, { on := 2, ground := Ground.phase }, { on := 3, ground := Ground.phase }, { on := 4, ground := Ground.phase }, { on := 5, ground := Ground.phase }, { on := 6, ground := Ground.phase }, { on := 7, ground := Ground.phase }, { on := 8, ground := Ground.phase }, { on := 9, ground := Ground.phase }, { on := 10, ground := Ground.phase }, { on := 11, ground := Ground.phase }, { on := 12, ground := Ground.phase }, { on := 13, ground := Ground.phase }, { on := 14, ground := Ground.phase }], guard := none }) rfl (fun K hK => ?_) AllReadyH.nil)
      go_simp
      refine hK.out _ _ (range_fst (Ao0.kept bL)) (fun hHeld => ?_)
      clear hK K
      refine wpAnyH_done (by kernel_rfl) ?_ _
      go_wp2
      go_meet
      case rel => exact ⟨Xp, aP, cP, rfl, Ap, is_of_own oP NIpd.out, bL⟩
     ·skip
      go_simp
      obtain ⟨V11, hVe⟩ : ∃ V, V = y7.alloc (.cells #[.slice none 0 0] 41) := ⟨_, rfl⟩
      have bV : Below y7.heap.size y7 V11 := by rw [hVe]; exact (Below.refl _ _).alloc (Nat.le_refl _) _
      have Ap : Arr V11 y7.heap.size 41 ([.slice none 0 0]) := by rw [hVe]; exact Arr.new _ ([.slice none 0 0]) _
      have hXp : Xb < y7.heap.size ∧ True := ⟨Ab.lt, trivial⟩
      obtain ⟨Xp, hXe⟩ : ∃ X, X = y7.heap.size := ⟨_, rfl⟩
      have sXp : y7.heap.size ≤ Xp := Nat.le_of_eq hXe.symm
      have uXpbL := bL.size
      replace bL := bL.trans (bV.mono bL.size)
      replace hQ := hQ.below bV
      replace Ab := Ab.kept bV
      replace hk := hk.below bV
      rw [← hVe]
      rw [← hXe] at Ap hXp ⊢
      clear hVe hXe bV
      refine hK.out _ _ (range_fst (Ao0.kept bL)) (fun hHeld => ?_)
      clear hK K
      refine wpAnyH_ready (rs := [9]) (by kernel_rfl) (by simp) (AllReadyH.cons (o := { dst := some 43, op := Op.call { callee := Callee.value (Operand.func 37), args := #[Operand.tmp 40, Operand.tmp 42], argTypes := #[41, 41] }, type := 42, pos := "l07_sign.go:59", after := #[{ on := 6, ground := Ground.data }, { on := 8, ground := Ground.data }, { on := 6, ground := Ground.chain }], guard := none }) rfl (fun K hK => ?_) AllReadyH.nil)
      go_simp
      have zzV11 := bL.size
      have hlV11 := Ap.lt
      refine (HM.out _ _ _ _ _ (fr0.trans (bL.mono fr0.size)) hk (hI.below bL)).mono ?_
      rintro e y12 ⟨aP, cP, rfl, oP, hb12⟩
      replace bL := bL.trans (hb12.mono bL.size)
      replace hQ := hQ.below hb12
      replace Ab := Ab.kept hb12
      replace hk := hk.below hb12
      replace Ap := Ap.kept hb12
      clear hb12
      have iP := In.of oP
      clear hk
      have zq := bL.size
      go_wp2_with fail
      refine hK.out _ _ (range_fst (Ao0.kept bL)) (fun hHeld => ?_)
      clear hK K
      refine wpAnyH_take (i := 10) (oi := qVo0) (v := .tuple #[.agg #[.slice aP 16 cP], .bool true]) rfl (by kernel_rfl) (by kernel_rfl) (by kernel_rfl) (fun _ _ _ h => h) (.inl ⟨by rfl, fun _ _ => by rfl⟩) (by assumption) ?_
      simp only [Act.put, List.setIfInBounds_toArray, List.set_cons_zero, List.set_cons_succ]
      refine wpAnyH_take (i := 11) (oi := qVo1) (v := .agg #[.slice aP 16 cP]) rfl (by kernel_rfl) (by kernel_rfl) (by kernel_rfl) (fun _ _ _ h => h) (.inl ⟨by rfl, fun _ _ => by rfl⟩) (by assumption) ?_
      simp only [Act.put, List.setIfInBounds_toArray, List.set_cons_zero, List.set_cons_succ]
      refine wpAnyH_take (i := 12) (oi := qVo2) (v := .bool true) rfl (by kernel_rfl) (by kernel_rfl) (by kernel_rfl) (fun _ _ _ h => h) (.inl ⟨by rfl, fun _ _ => by rfl⟩) (by assumption) ?_
      simp only [Act.put, List.setIfInBounds_toArray, List.set_cons_zero, List.set_cons_succ]
      refine wpAnyH_ready (rs := [14]) (by kernel_rfl) (by simp) (AllReadyH.cons (o := qVo3) rfl (fun K hK => ?_) AllReadyH.nil)
      rw [if_pos (by rfl)]
      refine wp_store_mid _ _ _ rfl _ _ ([.slice aP 16 cP]).toArray rfl rfl (by have := arr_there Ap; simpa using this) infoSc (all_oneCell_toArray (by simp [Value.oneCell'])) ?_
      simp only [Act.put]
      replace oP := own_setCells oP iP (E := Xp) (by omega) ([.slice aP 16 cP])
      replace Ap := Ap.sc0 ([.slice aP 16 cP]) (by simp)
      replace bL := bel_sc bL Xp ([.slice aP 16 cP]) (by omega)
      obtain ⟨V13, hVe⟩ : ∃ V, V = y12.setCells Xp 0 ([.slice aP 16 cP]) := ⟨_, rfl⟩
      rw [← hVe] at oP Ap bL ⊢
      clear hVe
      clear hQ
      clear Ab
      refine hK.out _ _ (range_fst (Ao0.kept bL)) (fun hHeld => ?_)
      clear hK K
      refine wpAnyH_ready (rs := [15]) (by kernel_rfl) (by simp) (AllReadyH.cons (o := { dst := some 11, op := Op.assign (Operand.tmp 45), type := 4, pos := "l07_sign.go:59", after := #[{ on := 12, ground := Ground.data }, { on := 14, ground := Ground.chain }, { on := 0, ground := Ground.phase }, { on := 1, ground := Ground.phase }, { on := 2, ground := Ground.phase }, { on := 3, ground := Ground.phase }, { on := 4, ground := Ground.phase }, { on := 5, ground := Ground.phase }, { on := 6, ground := Ground.phase }, { on := 7, ground := Ground.phase }, { on := 8, ground := Ground.phase }, { on := 9, ground := Ground.phase }, { on := 10, ground := Ground.phase }, { on := 11, ground := Ground.phase }, { on := 12, ground := Ground.phase }, { on := 13, ground := Ground.phase }, { on := 14, ground := Ground.phase }], guard := none }) rfl (fun K hK => ?_) AllReadyH.nil)
      go_simp
      refine hK.out _ _ (range_fst (Ao0.kept bL)) (fun hHeld => ?_)
      clear hK K
      refine wpAnyH_done (by kernel_rfl) ?_ _
      go_wp2
      go_meet
      case rel => exact ⟨Xp, aP, cP, rfl, Ap, is_of_own oP NIpd.out, bL⟩
    ·skip
     go_simp
     obtain ⟨V14, hVe⟩ : ∃ V, V = V6.alloc (.cells #[.slice none 0 0] 41) := ⟨_, rfl⟩
     have bV : Below V6.heap.size V6 V14 := by rw [hVe]; exact (Below.refl _ _).alloc (Nat.le_refl _) _
     have Ap : Arr V14 V6.heap.size 41 ([.slice none 0 0]) := by rw [hVe]; exact Arr.new _ ([.slice none 0 0]) _
     have hXp : Xb < V6.heap.size ∧ True := ⟨Ab.lt, trivial⟩
     obtain ⟨Xp, hXe⟩ : ∃ X, X = V6.heap.size := ⟨_, rfl⟩
     have sXp : V6.heap.size ≤ Xp := Nat.le_of_eq hXe.symm
     have uXpbL := bL.size
     replace bL := bL.trans (bV.mono bL.size)
     replace hQ := hQ.below bV
     replace Ab := Ab.kept bV
     rw [← hVe]
     rw [← hXe] at Ap hXp ⊢
     clear hVe hXe bV
     refine hK.out _ _ (range_fst (Ao0.kept bL)) (fun hHeld => ?_)
     clear hK K
     refine wpAnyH_ready (rs := [6]) (by kernel_rfl) (by simp) (AllReadyH.cons (o := { dst := some 40, op := Op.call { callee := Callee.value (Operand.func 35), args := #[Operand.tmp 39], argTypes := #[126] }, type := 41, pos := "l07_sign.go:59", after := #[{ on := 5, ground := Ground.data }, { on := 3, ground := Ground.chain }], guard := none }) rfl (fun K hK => ?_) AllReadyH.nil)
     go_simp
     have zzV14 := bL.size
     have hlV14 := Ap.lt
     refine (HK.out _ _ _ _ _ _ (fr0.trans (bL.mono fr0.size)) Ab.lt (Ab.cell 0) (Ab.cell 1) (Ab.cell 2) (hF.below bL) hQ).mono ?_
     rintro e y15 ⟨aK, cK, rfl, oK, hb15⟩
     replace bL := bL.trans (hb15.mono bL.size)
     replace hQ := hQ.below hb15
     replace Ab := Ab.kept hb15
     replace Ap := Ap.kept hb15
     clear hb15
     have hk := is_of_own oK NIk.out
     clear oK
     go_wp2_with fail
     refine hK.out _ _ (range_fst (Ao0.kept bL)) (fun hHeld => ?_)
     clear hK K
     refine wpAnyH_ready (rs := [9]) (by kernel_rfl) (by simp) (AllReadyH.cons (o := { dst := some 43, op := Op.call { callee := Callee.value (Operand.func 37), args := #[Operand.tmp 40, Operand.tmp 42], argTypes := #[41, 41] }, type := 42, pos := "l07_sign.go:59", after := #[{ on := 6, ground := Ground.data }, { on := 8, ground := Ground.data }, { on := 6, ground := Ground.chain }], guard := none }) rfl (fun K hK => ?_) AllReadyH.nil)
     go_simp
     have zzy15 := bL.size
     have hly15 := Ap.lt
     refine (HM.out _ _ _ _ _ (fr0.trans (bL.mono fr0.size)) hk (hI.below bL)).mono ?_
     rintro e y16 ⟨aP, cP, rfl, oP, hb16⟩
     replace bL := bL.trans (hb16.mono bL.size)
     replace hQ := hQ.below hb16
     replace Ab := Ab.kept hb16
     replace Ap := Ap.kept hb16
     replace hk := hk.below hb16
     clear hb16
     have iP := In.of oP
     clear hk
     have zq := bL.size
     go_wp2_with fail
     refine hK.out _ _ (range_fst (Ao0.kept bL)) (fun hHeld => ?_)
     clear hK K
     refine wpAnyH_take (i := 10) (oi := qVo0) (v := .tuple #[.agg #[.slice aP 16 cP], .bool true]) rfl (by kernel_rfl) (by kernel_rfl) (by kernel_rfl) (fun _ _ _ h => h) (.inl ⟨by rfl, fun _ _ => by rfl⟩) (by assumption) ?_
     simp only [Act.put, List.setIfInBounds_toArray, List.set_cons_zero, List.set_cons_succ]
     refine wpAnyH_take (i := 11) (oi := qVo1) (v := .agg #[.slice aP 16 cP]) rfl (by kernel_rfl) (by kernel_rfl) (by kernel_rfl) (fun _ _ _ h => h) (.inl ⟨by rfl, fun _ _ => by rfl⟩) (by assumption) ?_
     simp only [Act.put, List.setIfInBounds_toArray, List.set_cons_zero, List.set_cons_succ]
     refine wpAnyH_take (i := 12) (oi := qVo2) (v := .bool true) rfl (by kernel_rfl) (by kernel_rfl) (by kernel_rfl) (fun _ _ _ h => h) (.inl ⟨by rfl, fun _ _ => by rfl⟩) (by assumption) ?_
     simp only [Act.put, List.setIfInBounds_toArray, List.set_cons_zero, List.set_cons_succ]
     refine wpAnyH_ready (rs := [14]) (by kernel_rfl) (by simp) (AllReadyH.cons (o := qVo3) rfl (fun K hK => ?_) AllReadyH.nil)
     rw [if_pos (by rfl)]
     refine wp_store_mid _ _ _ rfl _ _ ([.slice aP 16 cP]).toArray rfl rfl (by have := arr_there Ap; simpa using this) infoSc (all_oneCell_toArray (by simp [Value.oneCell'])) ?_
     simp only [Act.put]
     replace oP := own_setCells oP iP (E := Xp) (by omega) ([.slice aP 16 cP])
     replace Ap := Ap.sc0 ([.slice aP 16 cP]) (by simp)
     replace bL := bel_sc bL Xp ([.slice aP 16 cP]) (by omega)
     obtain ⟨V17, hVe⟩ : ∃ V, V = y16.setCells Xp 0 ([.slice aP 16 cP]) := ⟨_, rfl⟩
     rw [← hVe] at oP Ap bL ⊢
     clear hVe
     clear hQ
     clear Ab
     refine hK.out _ _ (range_fst (Ao0.kept bL)) (fun hHeld => ?_)
     clear hK K
     refine wpAnyH_ready (rs := [15]) (by kernel_rfl) (by simp) (AllReadyH.cons (o := { dst := some 11, op := Op.assign (Operand.tmp 45), type := 4, pos := "l07_sign.go:59", after := #[{ on := 12, ground := Ground.data }, { on := 14, ground := Ground.chain }, { on := 0, ground := Ground.phase }, { on := 1, ground := Ground.phase }, { on := 2, ground := Ground.phase }, { on := 3, ground := Ground.phase }, { on := 4, ground := Ground.phase }, { on := 5, ground := Ground.phase }, { on := 6, ground := Ground.phase }, { on := 7, ground := Ground.phase }, { on := 8, ground := Ground.phase }, { on := 9, ground := Ground.phase }, { on := 10, ground := Ground.phase }, { on := 11, ground := Ground.phase }, { on := 12, ground := Ground.phase }, { on := 13, ground := Ground.phase }, { on := 14, ground := Ground.phase }], guard := none }) rfl (fun K hK => ?_) AllReadyH.nil)
     go_simp
     refine hK.out _ _ (range_fst (Ao0.kept bL)) (fun hHeld => ?_)
     clear hK K
     refine wpAnyH_done (by kernel_rfl) ?_ _
     go_wp2
     go_meet
     case rel => exact ⟨Xp, aP, cP, rfl, Ap, is_of_own oP NIpd.out, bL⟩
   ·skip
    go_simp
    obtain ⟨V18, hVe⟩ : ∃ V, V = y5.alloc (.cells #[.slice none 0 0] 41) := ⟨_, rfl⟩
    have bV : Below y5.heap.size y5 V18 := by rw [hVe]; exact (Below.refl _ _).alloc (Nat.le_refl _) _
    have Ap : Arr V18 y5.heap.size 41 ([.slice none 0 0]) := by rw [hVe]; exact Arr.new _ ([.slice none 0 0]) _
    have hXp : y5.heap.size ≤ y5.heap.size := Nat.le_refl _
    obtain ⟨Xp, hXe⟩ : ∃ X, X = y5.heap.size := ⟨_, rfl⟩
    have sXp : y5.heap.size ≤ Xp := Nat.le_of_eq hXe.symm
    have uXpbL := bL.size
    replace bL := bL.trans (bV.mono bL.size)
    replace hQ := hQ.below bV
    rw [← hVe]
    rw [← hXe] at Ap hXp ⊢
    clear hVe hXe bV
    refine hK.out _ _ (range_fst (Ao0.kept bL)) (fun hHeld => ?_)
    clear hK K
    refine wpAnyH_ready (rs := [5]) (by kernel_rfl) (by simp) (AllReadyH.cons (o := { dst := some 39, op := Op.buildSlice 126 3 #[(0, Operand.tmp 34), (1, Operand.tmp 37), (2, Operand.tmp 38)], type := 126, pos := "l07_sign.go:59", after := #[{ on := 0, ground := Ground.data }, { on := 3, ground := Ground.data }, { on := 4, ground := Ground.data }], guard := none }) rfl (fun K hK => ?_) AllReadyH.nil)
    go_simp
    obtain ⟨V19, hVe⟩ : ∃ V, V = V18.alloc (.cells #[.slice aF 32 cF, .slice aQ 32 cQ, .slice b n d] 22) := ⟨_, rfl⟩
    have bV : Below V18.heap.size V18 V19 := by rw [hVe]; exact (Below.refl _ _).alloc (Nat.le_refl _) _
    have Ab : Arr V19 V18.heap.size 22 ([.slice aF 32 cF, .slice aQ 32 cQ, .slice b n d]) := by rw [hVe]; exact Arr.new _ ([.slice aF 32 cF, .slice aQ 32 cQ, .slice b n d]) _
    have hXb : Xp < V18.heap.size ∧ True := ⟨Ap.lt, trivial⟩
    obtain ⟨Xb, hXe⟩ : ∃ X, X = V18.heap.size := ⟨_, rfl⟩
    have sXb : V18.heap.size ≤ Xb := Nat.le_of_eq hXe.symm
    have uXbbL := bL.size
    replace bL := bL.trans (bV.mono bL.size)
    replace hQ := hQ.below bV
    replace Ap := Ap.kept bV
    rw [← hVe]
    rw [← hXe] at Ab hXb ⊢
    clear hVe hXe bV
    refine hK.out _ _ (range_fst (Ao0.kept bL)) (fun hHeld => ?_)
    clear hK K
    refine wpAnyH_ready (rs := [6]) (by kernel_rfl) (by simp) (AllReadyH.cons (o := { dst := some 40, op := Op.call { callee := Callee.value (Operand.func 35), args := #[Operand.tmp 39], argTypes := #[126] }, type := 41, pos := "l07_sign.go:59", after := #[{ on := 5, ground := Ground.data }, { on := 3, ground := Ground.chain }], guard := none }) rfl (fun K hK => ?_) AllReadyH.nil)
    go_simp
    have zzV19 := bL.size
    have hlV19 := Ap.lt
    refine (HK.out _ _ _ _ _ _ (fr0.trans (bL.mono fr0.size)) Ab.lt (Ab.cell 0) (Ab.cell 1) (Ab.cell 2) (hF.below bL) hQ).mono ?_
    rintro e y20 ⟨aK, cK, rfl, oK, hb20⟩
    replace bL := bL.trans (hb20.mono bL.size)
    replace hQ := hQ.below hb20
    replace Ap := Ap.kept hb20
    replace Ab := Ab.kept hb20
    clear hb20
    have hk := is_of_own oK NIk.out
    clear oK
    go_wp2_with fail
    refine hK.out _ _ (range_fst (Ao0.kept bL)) (fun hHeld => ?_)
    clear hK K
    refine wpAnyH_ready (rs := [9]) (by kernel_rfl) (by simp) (AllReadyH.cons (o := { dst := some 43, op := Op.call { callee := Callee.value (Operand.func 37), args := #[Operand.tmp 40, Operand.tmp 42], argTypes := #[41, 41] }, type := 42, pos := "l07_sign.go:59", after := #[{ on := 6, ground := Ground.data }, { on := 8, ground := Ground.data }, { on := 6, ground := Ground.chain }], guard := none }) rfl (fun K hK => ?_) AllReadyH.nil)
    go_simp
    have zzy20 := bL.size
    have hly20 := Ap.lt
    refine (HM.out _ _ _ _ _ (fr0.trans (bL.mono fr0.size)) hk (hI.below bL)).mono ?_
    rintro e y21 ⟨aP, cP, rfl, oP, hb21⟩
    replace bL := bL.trans (hb21.mono bL.size)
    replace hQ := hQ.below hb21
    replace Ap := Ap.kept hb21
    replace Ab := Ab.kept hb21
    replace hk := hk.below hb21
    clear hb21
    have iP := In.of oP
    clear hk
    have zq := bL.size
    go_wp2_with fail
    refine hK.out _ _ (range_fst (Ao0.kept bL)) (fun hHeld => ?_)
    clear hK K
    refine wpAnyH_take (i := 10) (oi := qVo0) (v := .tuple #[.agg #[.slice aP 16 cP], .bool true]) rfl (by kernel_rfl) (by kernel_rfl) (by kernel_rfl) (fun _ _ _ h => h) (.inl ⟨by rfl, fun _ _ => by rfl⟩) (by assumption) ?_
    simp only [Act.put, List.setIfInBounds_toArray, List.set_cons_zero, List.set_cons_succ]
    refine wpAnyH_take (i := 11) (oi := qVo1) (v := .agg #[.slice aP 16 cP]) rfl (by kernel_rfl) (by kernel_rfl) (by kernel_rfl) (fun _ _ _ h => h) (.inl ⟨by rfl, fun _ _ => by rfl⟩) (by assumption) ?_
    simp only [Act.put, List.setIfInBounds_toArray, List.set_cons_zero, List.set_cons_succ]
    refine wpAnyH_take (i := 12) (oi := qVo2) (v := .bool true) rfl (by kernel_rfl) (by kernel_rfl) (by kernel_rfl) (fun _ _ _ h => h) (.inl ⟨by rfl, fun _ _ => by rfl⟩) (by assumption) ?_
    simp only [Act.put, List.setIfInBounds_toArray, List.set_cons_zero, List.set_cons_succ]
    refine wpAnyH_ready (rs := [14]) (by kernel_rfl) (by simp) (AllReadyH.cons (o := qVo3) rfl (fun K hK => ?_) AllReadyH.nil)
    rw [if_pos (by rfl)]
    refine wp_store_mid _ _ _ rfl _ _ ([.slice aP 16 cP]).toArray rfl rfl (by have := arr_there Ap; simpa using this) infoSc (all_oneCell_toArray (by simp [Value.oneCell'])) ?_
    simp only [Act.put]
    replace oP := own_setCells oP iP (E := Xp) (by omega) ([.slice aP 16 cP])
    replace Ap := Ap.sc0 ([.slice aP 16 cP]) (by simp)
    replace bL := bel_sc bL Xp ([.slice aP 16 cP]) (by omega)
    obtain ⟨V22, hVe⟩ : ∃ V, V = y21.setCells Xp 0 ([.slice aP 16 cP]) := ⟨_, rfl⟩
    rw [← hVe] at oP Ap bL ⊢
    clear hVe
    clear hQ
    clear Ab
    refine hK.out _ _ (range_fst (Ao0.kept bL)) (fun hHeld => ?_)
    clear hK K
    refine wpAnyH_ready (rs := [15]) (by kernel_rfl) (by simp) (AllReadyH.cons (o := { dst := some 11, op := Op.assign (Operand.tmp 45), type := 4, pos := "l07_sign.go:59", after := #[{ on := 12, ground := Ground.data }, { on := 14, ground := Ground.chain }, { on := 0, ground := Ground.phase }, { on := 1, ground := Ground.phase }, { on := 2, ground := Ground.phase }, { on := 3, ground := Ground.phase }, { on := 4, ground := Ground.phase }, { on := 5, ground := Ground.phase }, { on := 6, ground := Ground.phase }, { on := 7, ground := Ground.phase }, { on := 8, ground := Ground.phase }, { on := 9, ground := Ground.phase }, { on := 10, ground := Ground.phase }, { on := 11, ground := Ground.phase }, { on := 12, ground := Ground.phase }, { on := 13, ground := Ground.phase }, { on := 14, ground := Ground.phase }], guard := none }) rfl (fun K hK => ?_) AllReadyH.nil)
    go_simp
    refine hK.out _ _ (range_fst (Ao0.kept bL)) (fun hHeld => ?_)
    clear hK K
    refine wpAnyH_done (by kernel_rfl) ?_ _
    go_wp2
    go_meet
    case rel => exact ⟨Xp, aP, cP, rfl, Ap, is_of_own oP NIpd.out, bL⟩
  ·skip
   go_simp
   obtain ⟨V23, hVe⟩ : ∃ V, V = D4.alloc (.cells #[.slice none 0 0] 41) := ⟨_, rfl⟩
   have bV : Below D4.heap.size D4 V23 := by rw [hVe]; exact (Below.refl _ _).alloc (Nat.le_refl _) _
   have Ap : Arr V23 D4.heap.size 41 ([.slice none 0 0]) := by rw [hVe]; exact Arr.new _ ([.slice none 0 0]) _
   have hXp : D4.heap.size ≤ D4.heap.size := Nat.le_refl _
   obtain ⟨Xp, hXe⟩ : ∃ X, X = D4.heap.size := ⟨_, rfl⟩
   have sXp : D4.heap.size ≤ Xp := Nat.le_of_eq hXe.symm
   have uXpbL := bL.size
   replace bL := bL.trans (bV.mono bL.size)
   rw [← hVe]
   rw [← hXe] at Ap hXp ⊢
   clear hVe hXe bV
   refine hK.out _ _ (range_fst (Ao0.kept bL)) (fun hHeld => ?_)
   clear hK K
   refine wpAnyH_ready (rs := [3]) (by kernel_rfl) (by simp) (AllReadyH.cons (o := { dst := some 37, op := Op.call { callee := Callee.value (Operand.func 36), args := #[Operand.tmp 36], argTypes := #[41] }, type := 22, pos := "l07_sign.go:59", after := #[{ on := 2, ground := Ground.data }], guard := none }) rfl (fun K hK => ?_) AllReadyH.nil)
   go_simp
   have zzV23 := bL.size
   have hlV23 := Ap.lt
   refine (HQ.out _ _ _ (fr0.trans (bL.mono fr0.size)) (hI.below bL)).mono ?_
   rintro e y24 ⟨aQ, cQ, rfl, oQ, hb24⟩
   replace bL := bL.trans (hb24.mono bL.size)
   replace Ap := Ap.kept hb24
   clear hb24
   have hQ := bs_of_own oQ HQB.out
   clear oQ
   go_wp2_with fail
   refine hK.out _ _ (range_fst (Ao0.kept bL)) (fun hHeld => ?_)
   clear hK K
   refine wpAnyH_ready (rs := [5]) (by kernel_rfl) (by simp) (AllReadyH.cons (o := { dst := some 39, op := Op.buildSlice 126 3 #[(0, Operand.tmp 34), (1, Operand.tmp 37), (2, Operand.tmp 38)], type := 126, pos := "l07_sign.go:59", after := #[{ on := 0, ground := Ground.data }, { on := 3, ground := Ground.data }, { on := 4, ground := Ground.data }], guard := none }) rfl (fun K hK => ?_) AllReadyH.nil)
   go_simp
   obtain ⟨V25, hVe⟩ : ∃ V, V = y24.alloc (.cells #[.slice aF 32 cF, .slice aQ 32 cQ, .slice b n d] 22) := ⟨_, rfl⟩
   have bV : Below y24.heap.size y24 V25 := by rw [hVe]; exact (Below.refl _ _).alloc (Nat.le_refl _) _
   have Ab : Arr V25 y24.heap.size 22 ([.slice aF 32 cF, .slice aQ 32 cQ, .slice b n d]) := by rw [hVe]; exact Arr.new _ ([.slice aF 32 cF, .slice aQ 32 cQ, .slice b n d]) _
   have hXb : Xp < y24.heap.size ∧ True := ⟨Ap.lt, trivial⟩
   obtain ⟨Xb, hXe⟩ : ∃ X, X = y24.heap.size := ⟨_, rfl⟩
   have sXb : y24.heap.size ≤ Xb := Nat.le_of_eq hXe.symm
   have uXbbL := bL.size
   replace bL := bL.trans (bV.mono bL.size)
   replace Ap := Ap.kept bV
   replace hQ := hQ.below bV
   rw [← hVe]
   rw [← hXe] at Ab hXb ⊢
   clear hVe hXe bV
   refine hK.out _ _ (range_fst (Ao0.kept bL)) (fun hHeld => ?_)
   clear hK K
   refine wpAnyH_ready (rs := [6]) (by kernel_rfl) (by simp) (AllReadyH.cons (o := { dst := some 40, op := Op.call { callee := Callee.value (Operand.func 35), args := #[Operand.tmp 39], argTypes := #[126] }, type := 41, pos := "l07_sign.go:59", after := #[{ on := 5, ground := Ground.data }, { on := 3, ground := Ground.chain }], guard := none }) rfl (fun K hK => ?_) AllReadyH.nil)
   go_simp
   have zzV25 := bL.size
   have hlV25 := Ap.lt
   refine (HK.out _ _ _ _ _ _ (fr0.trans (bL.mono fr0.size)) Ab.lt (Ab.cell 0) (Ab.cell 1) (Ab.cell 2) (hF.below bL) hQ).mono ?_
   rintro e y26 ⟨aK, cK, rfl, oK, hb26⟩
   replace bL := bL.trans (hb26.mono bL.size)
   replace Ap := Ap.kept hb26
   replace hQ := hQ.below hb26
   replace Ab := Ab.kept hb26
   clear hb26
   have hk := is_of_own oK NIk.out
   clear oK
   go_wp2_with fail
   refine hK.out _ _ (range_fst (Ao0.kept bL)) (fun hHeld => ?_)
   clear hK K
   refine wpAnyH_ready (rs := [9]) (by kernel_rfl) (by simp) (AllReadyH.cons (o := { dst := some 43, op := Op.call { callee := Callee.value (Operand.func 37), args := #[Operand.tmp 40, Operand.tmp 42], argTypes := #[41, 41] }, type := 42, pos := "l07_sign.go:59", after := #[{ on := 6, ground := Ground.data }, { on := 8, ground := Ground.data }, { on := 6, ground := Ground.chain }], guard := none }) rfl (fun K hK => ?_) AllReadyH.nil)
   go_simp
   have zzy26 := bL.size
   have hly26 := Ap.lt
   refine (HM.out _ _ _ _ _ (fr0.trans (bL.mono fr0.size)) hk (hI.below bL)).mono ?_
   rintro e y27 ⟨aP, cP, rfl, oP, hb27⟩
   replace bL := bL.trans (hb27.mono bL.size)
   replace Ap := Ap.kept hb27
   replace hQ := hQ.below hb27
   replace Ab := Ab.kept hb27
   replace hk := hk.below hb27
   clear hb27
   have iP := In.of oP
   clear hk
   have zq := bL.size
   go_wp2_with fail
   refine hK.out _ _ (range_fst (Ao0.kept bL)) (fun hHeld => ?_)
   clear hK K
   refine wpAnyH_take (i := 10) (oi := qVo0) (v := .tuple #[.agg #[.slice aP 16 cP], .bool true]) rfl (by kernel_rfl) (by kernel_rfl) (by kernel_rfl) (fun _ _ _ h => h) (.inl ⟨by rfl, fun _ _ => by rfl⟩) (by assumption) ?_
   simp only [Act.put, List.setIfInBounds_toArray, List.set_cons_zero, List.set_cons_succ]
   refine wpAnyH_take (i := 11) (oi := qVo1) (v := .agg #[.slice aP 16 cP]) rfl (by kernel_rfl) (by kernel_rfl) (by kernel_rfl) (fun _ _ _ h => h) (.inl ⟨by rfl, fun _ _ => by rfl⟩) (by assumption) ?_
   simp only [Act.put, List.setIfInBounds_toArray, List.set_cons_zero, List.set_cons_succ]
   refine wpAnyH_take (i := 12) (oi := qVo2) (v := .bool true) rfl (by kernel_rfl) (by kernel_rfl) (by kernel_rfl) (fun _ _ _ h => h) (.inl ⟨by rfl, fun _ _ => by rfl⟩) (by assumption) ?_
   simp only [Act.put, List.setIfInBounds_toArray, List.set_cons_zero, List.set_cons_succ]
   refine wpAnyH_ready (rs := [14]) (by kernel_rfl) (by simp) (AllReadyH.cons (o := qVo3) rfl (fun K hK => ?_) AllReadyH.nil)
   rw [if_pos (by rfl)]
   refine wp_store_mid _ _ _ rfl _ _ ([.slice aP 16 cP]).toArray rfl rfl (by have := arr_there Ap; simpa using this) infoSc (all_oneCell_toArray (by simp [Value.oneCell'])) ?_
   simp only [Act.put]
   replace oP := own_setCells oP iP (E := Xp) (by omega) ([.slice aP 16 cP])
   replace Ap := Ap.sc0 ([.slice aP 16 cP]) (by simp)
   replace bL := bel_sc bL Xp ([.slice aP 16 cP]) (by omega)
   obtain ⟨V28, hVe⟩ : ∃ V, V = y27.setCells Xp 0 ([.slice aP 16 cP]) := ⟨_, rfl⟩
   rw [← hVe] at oP Ap bL ⊢
   clear hVe
   clear hQ
   clear Ab
   refine hK.out _ _ (range_fst (Ao0.kept bL)) (fun hHeld => ?_)
   clear hK K
   refine wpAnyH_ready (rs := [15]) (by kernel_rfl) (by simp) (AllReadyH.cons (o := { dst := some 11, op := Op.assign (Operand.tmp 45), type := 4, pos := "l07_sign.go:59", after := #[{ on := 12, ground := Ground.data }, { on := 14, ground := Ground.chain }, { on := 0, ground := Ground.phase }, { on := 1, ground := Ground.phase }, { on := 2, ground := Ground.phase }, { on := 3, ground := Ground.phase }, { on := 4, ground := Ground.phase }, { on := 5, ground := Ground.phase }, { on := 6, ground := Ground.phase }, { on := 7, ground := Ground.phase }, { on := 8, ground := Ground.phase }, { on := 9, ground := Ground.phase }, { on := 10, ground := Ground.phase }, { on := 11, ground := Ground.phase }, { on := 12, ground := Ground.phase }, { on := 13, ground := Ground.phase }, { on := 14, ground := Ground.phase }], guard := none }) rfl (fun K hK => ?_) AllReadyH.nil)
   go_simp
   refine hK.out _ _ (range_fst (Ao0.kept bL)) (fun hHeld => ?_)
   clear hK K
   refine wpAnyH_done (by kernel_rfl) ?_ _
   go_wp2
   go_meet
   case rel => exact ⟨Xp, aP, cP, rfl, Ap, is_of_own oP NIpd.out, bL⟩
 case rest =>
  clear bL
  obtain ⟨Xp, aP, cP, rfl, Ap, hP, bL⟩ := hcut
  obtain ⟨C6, hwc⟩ : ∃ V, V = wc := ⟨_, rfl⟩
  rw [← hwc] at Ap hP bL ⊢
  clear hwc
  have fr := fr0.trans (bL.mono fr0.size)
  replace Ar := Ar.kept bL
  replace hr := hr.below bL
  replace hF := hF.below bL
  clear bL hI Ao0 fr0
  have c1 : C6.cell? ⟨Xr, 0, none⟩ = some (.slice ar 16 cr) := Ar.cell 0
  have c2 : C6.cell? ⟨Xp, 0, none⟩ = some (.slice aP 16 cP) := Ap.cell 0
  go_wp2_with fail
  clear c1 c2
  clear Ar
  clear Ap
  refine (HD.out _ _ _ _ _ fr hr hP).mono ?_
  rintro e y29 ⟨aS, cS, rfl, oS, hb29⟩
  replace fr := fr.trans (hb29.mono fr.size)
  replace hr := hr.below hb29
  replace hF := hF.below hb29
  replace hP := hP.below hb29
  clear hb29
  have hS := is_of_own oS NIs.out
  clear oS
  clear hr
  clear hP
  go_upto_region 8 with fail
  obtain ⟨Z7, hV⟩ : ∃ Z, Z = y29.alloc (.cells #[.slice aS 16 cS] 41) := ⟨_, rfl⟩
  have bV : Below y29.heap.size y29 Z7 := by rw [hV]; exact (Below.refl _ _).alloc (Nat.le_refl _) _
  have As : Arr Z7 y29.heap.size 41 [.slice aS 16 cS] := by rw [hV]; exact Arr.new _ _ _
  rw [← hV]
  replace fr := fr.trans (bV.mono fr.size)
  replace hF := hF.below bV
  replace hS := hS.below bV
  clear hV bV
  have c1 : Z7.cell? ⟨y29.heap.size, 0, none⟩ = some (.slice aS 16 cS) := As.cell 0
  go_wp2_with fail
  clear c1 As
  refine (HZ.out _ _ _ fr hS).mono ?_
  rintro e y30 ⟨aT, cT, rfl, hT, hb30⟩
  replace fr := fr.trans (hb30.mono fr.size)
  replace hF := hF.below hb30
  replace hS := hS.below hb30
  clear hb30
  clear hS
  go_wp2_with fail
  obtain ⟨Z8, hV⟩ : ∃ Z, Z = y30.alloc (.cells #[.slice aF 32 cF, .slice aT 32 cT] 22) := ⟨_, rfl⟩
  have bV : Below y30.heap.size y30 Z8 := by rw [hV]; exact (Below.refl _ _).alloc (Nat.le_refl _) _
  have Aq : Arr Z8 y30.heap.size 22 [.slice aF 32 cF, .slice aT 32 cT] := by rw [hV]; exact Arr.new _ _ _
  rw [← hV]
  replace fr := fr.trans (bV.mono fr.size)
  replace hF := hF.below bV
  replace hT := hT.below bV
  clear hV bV
  refine (concat2 _ aF aT 32 cF 32 cT F (btL s) _ Aq.lt (Aq.cell 0) (Aq.cell 1) hF hT (by omega) (by omega)).mono ?_
  rintro e z ⟨v, rfl, ho, hb⟩
  go_wp2
  go_ret2
  exact ⟨v, rfl, own_base ho fr.size, fr.trans (hb.mono fr.size)⟩
end

end Go.Proofs.YtihoaakbkffejaaGreatDoor

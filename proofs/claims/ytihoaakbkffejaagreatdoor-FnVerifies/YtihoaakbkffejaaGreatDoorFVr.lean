/-
  What is proved here: the contract of the program's baseWithout; the contract of the program's baseTimes: the bytes of a multiple of the; the contract of the program's Clamp; contracts of the program's methods sum and orderSettled: the sum of two.
-/
import Derived.Test.YtihoaakbkffejaaGreatDoorFGpw
import Derived.Test.YtihoaakbkffejaaGreatDoorFOm0
import Derived.Test.YtihoaakbkffejaaGreatDoorFOha
import Derived.Test.YtihoaakbkffejaaGreatDoorFHbt
import Derived.Test.YtihoaakbkffejaaGreatDoorFGkw
import Derived.Test.YtihoaakbkffejaaGreatDoorFUff
import Derived.Deep.CutRange
import Derived.Test.YtihoaakbkffejaaGreatDoorFJrd
namespace Go.Proofs.YtihoaakbkffejaaGreatDoor
open Go.RowKit
set_option maxRecDepth 100000
abbrev qVr0 : Oper := { dst := some 15, op := Op.move (Operand.tmp 18), type := 39, pos := "l07_sign.go:123", after := #[{ on := 2, ground := Ground.data }], guard := none }
abbrev qVr1 : Oper := { dst := some 19, op := Op.extract (Operand.tmp 15) 0, type := 33, pos := "l07_sign.go:123", after := #[{ on := 3, ground := Ground.data }], guard := none }
abbrev qVr2 : Oper := { dst := some 20, op := Op.extract (Operand.tmp 15) 1, type := 4, pos := "l07_sign.go:123", after := #[{ on := 3, ground := Ground.data }, { on := 7, ground := Ground.gcOnly Departure.lateStores }], guard := none }
abbrev qVr3 : Oper := { dst := none, op := Op.store 33 (Operand.tmp 7) (Operand.tmp 19), type := 0, pos := "l07_sign.go:123", after := #[{ on := 6, ground := Ground.data }, { on := 4, ground := Ground.data }, { on := 2, ground := Ground.chain }, { on := 0, ground := Ground.phase }, { on := 1, ground := Ground.phase }, { on := 2, ground := Ground.phase }, { on := 3, ground := Ground.phase }, { on := 4, ground := Ground.phase }, { on := 5, ground := Ground.textOnly Departure.lateStores }, { on := 6, ground := Ground.phase }], guard := none }

section
variable [NeZero pN]
theorem oPNeg (a : Option Addr) (c : Nat) (b : Option Addr) (d : Nat) (P : KF × KF) (w : World) (h : PI w a c b d P) (hP : On dK P) (hG : VarsOk w) :
  Calls Tryz.prog 127 #[.agg #[.slice a 16 c, .slice b 16 d]] w fun e w' => ∃ a1 c1 b1 d1, e = .returned (.tuple #[.agg #[.slice a1 16 c1, .slice b1 16 d1], .bool true]) ∧ PO w' w.heap.size a1 c1 b1 d1 (pNeg P) ∧ Below w.heap.size w w' := by
 refine (implPtNeg a 16 c (cx P.1) b 16 d (cx P.2) w h.x h.y hG.P hG.D).mono ?_
 rintro e w1 ⟨v, rfl, hv, hb⟩
 have e1 := okpt hP
 obtain ⟨m1, m2⟩ := pt_neg (cx P.1) (cx P.2)
 rw [pt_back] at m1 m2
 rw [e1] at hv ⊢
 obtain ⟨a1, c1, b1, d1, rfl, hp⟩ := PO.of (P := pNeg P) hv m1 m2
 exact ⟨a1, c1, b1, d1, rfl, hp, hb⟩
theorem oPAdd (a : Option Addr) (c : Nat) (b : Option Addr) (d : Nat) (P : KF × KF) (a' : Option Addr) (c' : Nat) (b' : Option Addr) (d' : Nat) (Q : KF × KF) (w : World) (h : PI w a c b d P) (k : PI w a' c' b' d' Q) (hP : On dK P) (hQ : On dK Q) (hG : VarsOk w) :
  Calls Tryz.prog 20 #[.agg #[.slice a 16 c, .slice b 16 d], .agg #[.slice a' 16 c', .slice b' 16 d']] w fun e w' => ∃ a1 c1 b1 d1, e = .returned (.tuple #[.agg #[.slice a1 16 c1, .slice b1 16 d1], .bool true]) ∧ PO w' w.heap.size a1 c1 b1 d1 (pAdd dK ivK P Q) ∧ Below w.heap.size w w' := by
 refine (implPtAdd a 16 c (cx P.1) b 16 d (cx P.2) a' 16 c' (cx Q.1) b' 16 d' (cx Q.2) w h.x h.y k.x k.y hG.P hG.D).mono ?_
 rintro e w1 ⟨v, rfl, hv, hb⟩
 have e1 := okpt hP
 have e2 := okpt hQ
 obtain ⟨m1, m2⟩ := pt_add e1 e2
 rw [pt_back, pt_back] at m1 m2
 rw [e1, e2] at hv ⊢
 obtain ⟨a1, c1, b1, d1, rfl, hp⟩ := PO.of (P := pAdd dK ivK P Q) hv m1 m2
 exact ⟨a1, c1, b1, d1, rfl, hp, hb⟩
set_option maxHeartbeats 8000000 in
theorem implWithout (aS : Option Addr) (cS : Nat) (ss : List Int) (ax : Option Addr) (cx' : Nat) (ay : Option Addr) (cy : Nat) (A : KF × KF) (ak : Option Addr) (ck : Nat) (ks : List Int) (w : World) (hs : Is w aS 16 cS ss) (hA : PI w ax cx' ay cy A) (hk : Is w ak 16 ck ks) (oA : On dK A) (oS : scOk ss = true) (oK : scOk ks = true) (hG : VarsOk w) :
  Calls Tryz.prog 89 #[.agg #[.slice aS 16 cS], .agg #[.slice ax 16 cx', .slice ay 16 cy], .agg #[.slice ak 16 ck]] w fun e w' => ∃ v, e = .returned v ∧ w'.ownsRow w.heap.size 5 1 v 32 (U8 (enc (pAdd dK ivK (pMul dK ivK (val ss).toNat baseK) (pNeg (pMul dK ivK (val ks).toNat A))))) ∧ Below w.heap.size w w' := by
 obtain ⟨R, eR⟩ : ∃ x, x = pMul dK ivK (val ss).toNat baseK := ⟨_, rfl⟩
 have oR : On dK R := by rw [eR]; exact crvK.on_mul on_base _
 obtain ⟨T, eT⟩ : ∃ x, x = pMul dK ivK (val ks).toNat A := ⟨_, rfl⟩
 have oT : On dK T := by rw [eT]; exact crvK.on_mul oA _
 obtain ⟨N, eN⟩ : ∃ x, x = pNeg T := ⟨_, rfl⟩
 have oN : On dK N := by rw [eN]; exact on_neg oT
 obtain ⟨U, eU⟩ : ∃ x, x = pAdd dK ivK R N := ⟨_, rfl⟩
 have oU : On dK U := by rw [eU]; exact crvK.on_add oR oN
 have H0 : Hid (∀ Z, Below w.heap.size w Z → Calls Tryz.prog 11 #[] Z fun e w' => ∃ a c b d, e = .returned (.agg #[.slice a 16 c, .slice b 16 d]) ∧ PO w' Z.heap.size a c b d baseK ∧ Below Z.heap.size Z w') := by unfold Hid; intro Z hZ; exact oPBase Z (hG.kept hZ)
 have H2 : Hid (∀ a c b d Z, PI Z a c b d baseK → Below w.heap.size w Z → Calls Tryz.prog 19 #[.agg #[.slice a 16 c, .slice b 16 d], .agg #[.slice aS 16 cS]] Z fun e w' => ∃ a1 c1 b1 d1, e = .returned (.tuple #[.agg #[.slice a1 16 c1, .slice b1 16 d1], .bool true]) ∧ PO w' Z.heap.size a1 c1 b1 d1 R ∧ Below Z.heap.size Z w') := by unfold Hid; intro a c b d Z h hZ; rw [eR]; exact oPMul a c b d baseK aS cS ss Z h (hs.below hZ) on_base oS (hG.kept hZ)
 have H3 : Hid (∀ Z, Below w.heap.size w Z → Calls Tryz.prog 19 #[.agg #[.slice ax 16 cx', .slice ay 16 cy], .agg #[.slice ak 16 ck]] Z fun e w' => ∃ a1 c1 b1 d1, e = .returned (.tuple #[.agg #[.slice a1 16 c1, .slice b1 16 d1], .bool true]) ∧ PO w' Z.heap.size a1 c1 b1 d1 T ∧ Below Z.heap.size Z w') := by unfold Hid; intro Z hZ; rw [eT]; exact oPMul ax cx' ay cy A ak ck ks Z (hA.below hZ) (hk.below hZ) oA oK (hG.kept hZ)
 have H4 : Hid (∀ a c b d Z, PI Z a c b d T → Below w.heap.size w Z → Calls Tryz.prog 127 #[.agg #[.slice a 16 c, .slice b 16 d]] Z fun e w' => ∃ a1 c1 b1 d1, e = .returned (.tuple #[.agg #[.slice a1 16 c1, .slice b1 16 d1], .bool true]) ∧ PO w' Z.heap.size a1 c1 b1 d1 N ∧ Below Z.heap.size Z w') := by unfold Hid; intro a c b d Z h hZ; rw [eN]; exact oPNeg a c b d T Z h oT (hG.kept hZ)
 have H5 : Hid (∀ a c b d a' c' b' d' Z, PI Z a c b d R → PI Z a' c' b' d' N → Below w.heap.size w Z → Calls Tryz.prog 20 #[.agg #[.slice a 16 c, .slice b 16 d], .agg #[.slice a' 16 c', .slice b' 16 d']] Z fun e w' => ∃ a1 c1 b1 d1, e = .returned (.tuple #[.agg #[.slice a1 16 c1, .slice b1 16 d1], .bool true]) ∧ PO w' Z.heap.size a1 c1 b1 d1 U ∧ Below Z.heap.size Z w') := by unfold Hid; intro a c b d a' c' b' d' Z h k hZ; rw [eU]; exact oPAdd a c b d R a' c' b' d' N Z h k oR oN (hG.kept hZ)
 have H6 : Hid (∀ a c b d Z, PI Z a c b d U → Below w.heap.size w Z → Calls Tryz.prog 10 #[.agg #[.slice a 16 c, .slice b 16 d]] Z fun e w' => ∃ v, e = .returned v ∧ w'.ownsRow Z.heap.size 5 1 v 32 (U8 (enc U)) ∧ Below Z.heap.size Z w') := by unfold Hid; intro a c b d Z h hZ; exact oPBytes a c b d U Z h oU (hG.kept hZ)
 rw [← eR, ← eT, ← eN, ← eU]
 have huS : Tryz.prog.underlying 41 = some _ := Tryz.underlying41
 obtain ⟨W, hW⟩ : ∃ W, W = ((w.alloc (.cells #[.slice aS 16 cS] 41)).alloc (.cells #[.slice ax 16 cx', .slice ay 16 cy] 33)).alloc (.cells #[.slice ak 16 ck] 41) := ⟨_, rfl⟩
 have fr : Below w.heap.size w W := by rw [hW]; exact ((((Below.refl _ _).alloc (Nat.le_refl _) _).alloc (by simp) _).alloc (by simp; omega) _)
 have pa : Arr W w.heap.size 41 ([.slice aS 16 cS]) := by
  rw [hW]
  have := ((Arr.new (w) ([.slice aS 16 cS]) 41).alloc (.cells #[.slice ax 16 cx', .slice ay 16 cy] 33)).alloc (.cells #[.slice ak 16 ck] 41)
  exact this
 have pb : Arr W (w.heap.size + 1) 33 ([.slice ax 16 cx', .slice ay 16 cy]) := by
  rw [hW]
  have := (Arr.new (w.alloc (.cells #[.slice aS 16 cS] 41)) ([.slice ax 16 cx', .slice ay 16 cy]) 33).alloc (.cells #[.slice ak 16 ck] 41)
  rw [World.size_alloc] at this
  exact this
 have pc : Arr W (w.heap.size + 2) 41 ([.slice ak 16 ck]) := by
  rw [hW]
  have := Arr.new ((w.alloc (.cells #[.slice aS 16 cS] 41)).alloc (.cells #[.slice ax 16 cx', .slice ay 16 cy] 33)) ([.slice ak 16 ck]) 41
  rw [World.size_alloc, World.size_alloc] at this
  exact this
 clear eR eT eN eU oR oT oN oU hG hs hA hk oA oS oK
 go_enter Tryz.func89, Tryz.ntmps89
 go_upto_region 1 with fail
 rw [← hW]
 clear hW
 try simp only [Act.put]
 go_cut [7] from 15 (fun s7 wc => ∃ (Xp : Nat) (a2 : Option Addr) (c2 : Nat) (b2 : Option Addr) (d2 : Nat), s7 = .pointer (some ⟨Xp, 0, none⟩) ∧ Arr wc Xp 33 [.slice a2 16 c2, .slice b2 16 d2] ∧ PI wc a2 c2 b2 d2 R ∧ Below w.heap.size w wc ∧ Arr wc (w.heap.size + 1) 33 [.slice ax 16 cx', .slice ay 16 cy] ∧ Arr wc (w.heap.size + 2) 41 [.slice ak 16 ck])
 case first =>
  try simp only [Act.put]
  have bD : Below W.heap.size W W.drew := (Below.refl _ _).drew
  replace fr := fr.trans (bD.mono fr.size)
  replace pa := pa.kept bD
  replace pb := pb.kept bD
  replace pc := pc.kept bD
  clear bD
  refine wp_region_held_drew (S := fun W => W.rangeAt w.heap.size 0 [.slice aS 16 cS]) (by kernel_rfl) (arr_range pa) (fun hHeld => ?_)
  obtain ⟨D1, hD⟩ : ∃ V, V = W.drew := ⟨_, rfl⟩
  rw [← hD] at hHeld fr pa pb pc ⊢
  clear hD
  refine wpAnyH_take (i := 1) (oi := { dst := some 17, op := Op.load 41 (Operand.tmp 3), type := 41, pos := "l07_sign.go:123", after := #[], guard := none }) (v := _) rfl (by kernel_rfl) (by kernel_rfl) (by kernel_rfl) (fun _ _ _ h => h) (yieldsIf_load_mid (by rfl) _ _ rfl _ _ rfl ([.slice aS 16 cS]) _ (fun _ h => h) huS rfl infoSc) (by assumption) ?_
  simp only [aP]
  refine wpAnyH_ready (rs := [0, 6]) (by kernel_rfl) (by simp) (AllReadyH.cons (o := { dst := some 16, op := Op.call { callee := Callee.value (Operand.func 11), args := #[], argTypes := #[] }, type := 33, pos := "l07_sign.go:123", after := #[], guard := none }) rfl (fun K hK => ?_) (AllReadyH.cons (o := { dst := some 7, op := Op.alloc 33, type := 0, pos := "l07_sign.go:123", after := #[], guard := none }) rfl (fun K hK => ?_) AllReadyH.nil))
  ·skip
   go_simp
   refine (H0.out _ fr).mono ?_
   rintro e y2 ⟨a1, c1, b1, d1, rfl, p1, hb2⟩
   replace fr := fr.trans (hb2.mono fr.size)
   replace pa := pa.kept hb2
   replace pb := pb.kept hb2
   replace pc := pc.kept hb2
   clear hb2
   go_wp2_with fail
   refine hK.out _ _ (arr_range pa) (fun hHeld => ?_)
   clear hK K
   refine wpAnyH_ready (rs := [2, 6]) (by kernel_rfl) (by simp) (AllReadyH.cons (o := { dst := some 18, op := Op.call { callee := Callee.value (Operand.func 19), args := #[Operand.tmp 16, Operand.tmp 17], argTypes := #[33, 41] }, type := 39, pos := "l07_sign.go:123", after := #[{ on := 0, ground := Ground.data }, { on := 1, ground := Ground.data }, { on := 0, ground := Ground.chain }], guard := none }) rfl (fun K hK => ?_) (AllReadyH.cons (o := { dst := some 7, op := Op.alloc 33, type := 0, pos := "l07_sign.go:123", after := #[], guard := none }) rfl (fun K hK => ?_) AllReadyH.nil))
   ·skip
    go_simp
    have hl2 : w.heap.size < y2.heap.size := pa.lt
    refine (H2.out _ _ _ _ _ p1.pi fr).mono ?_
    rintro e y3 ⟨a2, c2, b2, d2, rfl, p2, hb3⟩
    replace fr := fr.trans (hb3.mono fr.size)
    replace pa := pa.kept hb3
    replace pb := pb.kept hb3
    replace pc := pc.kept hb3
    replace p1 := p1.below hb3
    clear hb3
    clear p1
    have i1 := In.of p2.x
    have i2 := In.of p2.y
    go_wp2_with fail
    refine hK.out _ _ (arr_range pa) (fun hHeld => ?_)
    clear hK K
    refine wpAnyH_take (i := 3) (oi := qVr0) (v := .tuple #[.agg #[.slice a2 16 c2, .slice b2 16 d2], .bool true]) rfl (by kernel_rfl) (by kernel_rfl) (by kernel_rfl) (fun _ _ _ h => h) (.inl ⟨by rfl, fun _ _ => by rfl⟩) (by assumption) ?_
    simp only [aP]
    refine wpAnyH_take (i := 4) (oi := qVr1) (v := .agg #[.slice a2 16 c2, .slice b2 16 d2]) rfl (by kernel_rfl) (by kernel_rfl) (by kernel_rfl) (fun _ _ _ h => h) (.inl ⟨by rfl, fun _ _ => by rfl⟩) (by assumption) ?_
    simp only [aP]
    refine wpAnyH_take (i := 5) (oi := qVr2) (v := .bool true) rfl (by kernel_rfl) (by kernel_rfl) (by kernel_rfl) (fun _ _ _ h => h) (.inl ⟨by rfl, fun _ _ => by rfl⟩) (by assumption) ?_
    simp only [aP]
    refine wpAnyH_ready (rs := [6]) (by kernel_rfl) (by simp) (AllReadyH.cons (o := { dst := some 7, op := Op.alloc 33, type := 0, pos := "l07_sign.go:123", after := #[], guard := none }) rfl (fun K hK => ?_) AllReadyH.nil)
    go_simp
    obtain ⟨V4, hVe⟩ : ∃ V, V = y3.alloc (.cells #[.slice none 0 0, .slice none 0 0] 33) := ⟨_, rfl⟩
    have bV : Below y3.heap.size y3 V4 := by rw [hVe]; exact (Below.refl _ _).alloc (Nat.le_refl _) _
    have Ap : Arr V4 y3.heap.size 33 ([.slice none 0 0, .slice none 0 0]) := by rw [hVe]; exact Arr.new _ ([.slice none 0 0, .slice none 0 0]) _
    have hXp : w.heap.size < y3.heap.size ∧ (w.heap.size + 1) < y3.heap.size ∧ (w.heap.size + 2) < y3.heap.size ∧ True := ⟨pa.lt, pb.lt, pc.lt, trivial⟩
    obtain ⟨Xp, hXe⟩ : ∃ X, X = y3.heap.size := ⟨_, rfl⟩
    have sXp : y3.heap.size ≤ Xp := Nat.le_of_eq hXe.symm
    have uXpfr := fr.size
    replace fr := fr.trans (bV.mono fr.size)
    replace pa := pa.kept bV
    replace pb := pb.kept bV
    replace pc := pc.kept bV
    replace p2 := p2.below bV
    rw [← hVe]
    rw [← hXe] at Ap hXp ⊢
    clear hVe hXe bV
    refine hK.out _ _ (arr_range pa) (fun hHeld => ?_)
    clear hK K
    refine wpAnyH_ready (rs := [7]) (by kernel_rfl) (by simp) (AllReadyH.cons (o := qVr3) rfl (fun K hK => ?_) AllReadyH.nil)
    rw [if_pos (by rfl)]
    refine wp_store_mid _ _ _ rfl _ _ ([.slice a2 16 c2, .slice b2 16 d2]).toArray rfl rfl (by have := arr_there Ap; simpa using this) infoPt (all_oneCell_toArray (by simp [Value.oneCell'])) ?_
    simp only [Act.put]
    replace p2 := p2.sc i1 i2 (E := Xp) (by omega) ([.slice a2 16 c2, .slice b2 16 d2])
    replace Ap := Ap.sc0 ([.slice a2 16 c2, .slice b2 16 d2]) (by simp)
    replace fr := bel_sc fr Xp ([.slice a2 16 c2, .slice b2 16 d2]) (by omega)
    replace pa := pa.sc Xp ([.slice a2 16 c2, .slice b2 16 d2]) (by omega)
    replace pb := pb.sc Xp ([.slice a2 16 c2, .slice b2 16 d2]) (by omega)
    replace pc := pc.sc Xp ([.slice a2 16 c2, .slice b2 16 d2]) (by omega)
    obtain ⟨V5, hVe⟩ : ∃ V, V = V4.setCells Xp 0 ([.slice a2 16 c2, .slice b2 16 d2]) := ⟨_, rfl⟩
    rw [← hVe] at p2 Ap fr pa pb pc ⊢
    clear hVe
    refine hK.out _ _ (arr_range pa) (fun hHeld => ?_)
    clear hK K
    refine wpAnyH_ready (rs := [8]) (by kernel_rfl) (by simp) (AllReadyH.cons (o := { dst := some 8, op := Op.assign (Operand.tmp 20), type := 4, pos := "l07_sign.go:123", after := #[{ on := 5, ground := Ground.data }, { on := 7, ground := Ground.chain }, { on := 0, ground := Ground.phase }, { on := 1, ground := Ground.phase }, { on := 2, ground := Ground.phase }, { on := 3, ground := Ground.phase }, { on := 4, ground := Ground.phase }, { on := 5, ground := Ground.phase }, { on := 6, ground := Ground.phase }, { on := 7, ground := Ground.phase }], guard := none }) rfl (fun K hK => ?_) AllReadyH.nil)
    go_simp
    refine hK.out _ _ (arr_range pa) (fun hHeld => ?_)
    clear hK K
    refine wpAnyH_done (by kernel_rfl) ?_ _
    go_wp2
    go_meet
    case rel => exact ⟨Xp, a2, c2, b2, d2, rfl, Ap, p2.pi, fr, pb, pc⟩
   ·skip
    go_simp
    obtain ⟨V6, hVe⟩ : ∃ V, V = y2.alloc (.cells #[.slice none 0 0, .slice none 0 0] 33) := ⟨_, rfl⟩
    have bV : Below y2.heap.size y2 V6 := by rw [hVe]; exact (Below.refl _ _).alloc (Nat.le_refl _) _
    have Ap : Arr V6 y2.heap.size 33 ([.slice none 0 0, .slice none 0 0]) := by rw [hVe]; exact Arr.new _ ([.slice none 0 0, .slice none 0 0]) _
    have hXp : w.heap.size < y2.heap.size ∧ (w.heap.size + 1) < y2.heap.size ∧ (w.heap.size + 2) < y2.heap.size ∧ True := ⟨pa.lt, pb.lt, pc.lt, trivial⟩
    obtain ⟨Xp, hXe⟩ : ∃ X, X = y2.heap.size := ⟨_, rfl⟩
    have sXp : y2.heap.size ≤ Xp := Nat.le_of_eq hXe.symm
    have uXpfr := fr.size
    replace fr := fr.trans (bV.mono fr.size)
    replace pa := pa.kept bV
    replace pb := pb.kept bV
    replace pc := pc.kept bV
    replace p1 := p1.below bV
    rw [← hVe]
    rw [← hXe] at Ap hXp ⊢
    clear hVe hXe bV
    refine hK.out _ _ (arr_range pa) (fun hHeld => ?_)
    clear hK K
    refine wpAnyH_ready (rs := [2]) (by kernel_rfl) (by simp) (AllReadyH.cons (o := { dst := some 18, op := Op.call { callee := Callee.value (Operand.func 19), args := #[Operand.tmp 16, Operand.tmp 17], argTypes := #[33, 41] }, type := 39, pos := "l07_sign.go:123", after := #[{ on := 0, ground := Ground.data }, { on := 1, ground := Ground.data }, { on := 0, ground := Ground.chain }], guard := none }) rfl (fun K hK => ?_) AllReadyH.nil)
    go_simp
    have hl2 : w.heap.size < V6.heap.size := pa.lt
    have hl3 := Ap.lt
    refine (H2.out _ _ _ _ _ p1.pi fr).mono ?_
    rintro e y7 ⟨a2, c2, b2, d2, rfl, p2, hb7⟩
    replace fr := fr.trans (hb7.mono fr.size)
    replace pa := pa.kept hb7
    replace pb := pb.kept hb7
    replace pc := pc.kept hb7
    replace p1 := p1.below hb7
    replace Ap := Ap.kept hb7
    clear hb7
    clear p1
    have i1 := In.of p2.x
    have i2 := In.of p2.y
    go_wp2_with fail
    refine hK.out _ _ (arr_range pa) (fun hHeld => ?_)
    clear hK K
    refine wpAnyH_take (i := 3) (oi := qVr0) (v := .tuple #[.agg #[.slice a2 16 c2, .slice b2 16 d2], .bool true]) rfl (by kernel_rfl) (by kernel_rfl) (by kernel_rfl) (fun _ _ _ h => h) (.inl ⟨by rfl, fun _ _ => by rfl⟩) (by assumption) ?_
    simp only [aP]
    refine wpAnyH_take (i := 4) (oi := qVr1) (v := .agg #[.slice a2 16 c2, .slice b2 16 d2]) rfl (by kernel_rfl) (by kernel_rfl) (by kernel_rfl) (fun _ _ _ h => h) (.inl ⟨by rfl, fun _ _ => by rfl⟩) (by assumption) ?_
    simp only [aP]
    refine wpAnyH_take (i := 5) (oi := qVr2) (v := .bool true) rfl (by kernel_rfl) (by kernel_rfl) (by kernel_rfl) (fun _ _ _ h => h) (.inl ⟨by rfl, fun _ _ => by rfl⟩) (by assumption) ?_
    simp only [aP]
    refine wpAnyH_ready (rs := [7]) (by kernel_rfl) (by simp) (AllReadyH.cons (o := qVr3) rfl (fun K hK => ?_) AllReadyH.nil)
    rw [if_pos (by rfl)]
    refine wp_store_mid _ _ _ rfl _ _ ([.slice a2 16 c2, .slice b2 16 d2]).toArray rfl rfl (by have := arr_there Ap; simpa using this) infoPt (all_oneCell_toArray (by simp [Value.oneCell'])) ?_
    simp only [Act.put]
    replace p2 := p2.sc i1 i2 (E := Xp) (by omega) ([.slice a2 16 c2, .slice b2 16 d2])
    replace Ap := Ap.sc0 ([.slice a2 16 c2, .slice b2 16 d2]) (by simp)
    replace fr := bel_sc fr Xp ([.slice a2 16 c2, .slice b2 16 d2]) (by omega)
    replace pa := pa.sc Xp ([.slice a2 16 c2, .slice b2 16 d2]) (by omega)
    replace pb := pb.sc Xp ([.slice a2 16 c2, .slice b2 16 d2]) (by omega)
    replace pc := pc.sc Xp ([.slice a2 16 c2, .slice b2 16 d2]) (by omega)
    obtain ⟨V8, hVe⟩ : ∃ V, V = y7.setCells Xp 0 ([.slice a2 16 c2, .slice b2 16 d2]) := ⟨_, rfl⟩
    rw [← hVe] at p2 Ap fr pa pb pc ⊢
    clear hVe
    refine hK.out _ _ (arr_range pa) (fun hHeld => ?_)
    clear hK K
    refine wpAnyH_ready (rs := [8]) (by kernel_rfl) (by simp) (AllReadyH.cons (o := { dst := some 8, op := Op.assign (Operand.tmp 20), type := 4, pos := "l07_sign.go:123", after := #[{ on := 5, ground := Ground.data }, { on := 7, ground := Ground.chain }, { on := 0, ground := Ground.phase }, { on := 1, ground := Ground.phase }, { on := 2, ground := Ground.phase }, { on := 3, ground := Ground.phase }, { on := 4, ground := Ground.phase }, { on := 5, ground := Ground.phase }, { on := 6, ground := Ground.phase }, { on := 7, ground := Ground.phase }], guard := none }) rfl (fun K hK => ?_) AllReadyH.nil)
    go_simp
    refine hK.out _ _ (arr_range pa) (fun hHeld => ?_)
    clear hK K
    refine wpAnyH_done (by kernel_rfl) ?_ _
    go_wp2
    go_meet
    case rel => exact ⟨Xp, a2, c2, b2, d2, rfl, Ap, p2.pi, fr, pb, pc⟩
  ·skip
   go_simp
   obtain ⟨V9, hVe⟩ : ∃ V, V = D1.alloc (.cells #[.slice none 0 0, .slice none 0 0] 33) := ⟨_, rfl⟩
   have bV : Below D1.heap.size D1 V9 := by rw [hVe]; exact (Below.refl _ _).alloc (Nat.le_refl _) _
   have Ap : Arr V9 D1.heap.size 33 ([.slice none 0 0, .slice none 0 0]) := by rw [hVe]; exact Arr.new _ ([.slice none 0 0, .slice none 0 0]) _
   have hXp : w.heap.size < D1.heap.size ∧ (w.heap.size + 1) < D1.heap.size ∧ (w.heap.size + 2) < D1.heap.size ∧ True := ⟨pa.lt, pb.lt, pc.lt, trivial⟩
   obtain ⟨Xp, hXe⟩ : ∃ X, X = D1.heap.size := ⟨_, rfl⟩
   have sXp : D1.heap.size ≤ Xp := Nat.le_of_eq hXe.symm
   have uXpfr := fr.size
   replace fr := fr.trans (bV.mono fr.size)
   replace pa := pa.kept bV
   replace pb := pb.kept bV
   replace pc := pc.kept bV
   rw [← hVe]
   rw [← hXe] at Ap hXp ⊢
   clear hVe hXe bV
   refine hK.out _ _ (arr_range pa) (fun hHeld => ?_)
   clear hK K
   refine wpAnyH_ready (rs := [0]) (by kernel_rfl) (by simp) (AllReadyH.cons (o := { dst := some 16, op := Op.call { callee := Callee.value (Operand.func 11), args := #[], argTypes := #[] }, type := 33, pos := "l07_sign.go:123", after := #[], guard := none }) rfl (fun K hK => ?_) AllReadyH.nil)
   go_simp
   refine (H0.out _ fr).mono ?_
   rintro e y10 ⟨a1, c1, b1, d1, rfl, p1, hb10⟩
   replace fr := fr.trans (hb10.mono fr.size)
   replace pa := pa.kept hb10
   replace pb := pb.kept hb10
   replace pc := pc.kept hb10
   replace Ap := Ap.kept hb10
   clear hb10
   go_wp2_with fail
   refine hK.out _ _ (arr_range pa) (fun hHeld => ?_)
   clear hK K
   refine wpAnyH_ready (rs := [2]) (by kernel_rfl) (by simp) (AllReadyH.cons (o := { dst := some 18, op := Op.call { callee := Callee.value (Operand.func 19), args := #[Operand.tmp 16, Operand.tmp 17], argTypes := #[33, 41] }, type := 39, pos := "l07_sign.go:123", after := #[{ on := 0, ground := Ground.data }, { on := 1, ground := Ground.data }, { on := 0, ground := Ground.chain }], guard := none }) rfl (fun K hK => ?_) AllReadyH.nil)
   go_simp
   have hl2 : w.heap.size < y10.heap.size := pa.lt
   have hl3 := Ap.lt
   refine (H2.out _ _ _ _ _ p1.pi fr).mono ?_
   rintro e y11 ⟨a2, c2, b2, d2, rfl, p2, hb11⟩
   replace fr := fr.trans (hb11.mono fr.size)
   replace pa := pa.kept hb11
   replace pb := pb.kept hb11
   replace pc := pc.kept hb11
   replace Ap := Ap.kept hb11
   replace p1 := p1.below hb11
   clear hb11
   clear p1
   have i1 := In.of p2.x
   have i2 := In.of p2.y
   go_wp2_with fail
   refine hK.out _ _ (arr_range pa) (fun hHeld => ?_)
   clear hK K
   refine wpAnyH_take (i := 3) (oi := qVr0) (v := .tuple #[.agg #[.slice a2 16 c2, .slice b2 16 d2], .bool true]) rfl (by kernel_rfl) (by kernel_rfl) (by kernel_rfl) (fun _ _ _ h => h) (.inl ⟨by rfl, fun _ _ => by rfl⟩) (by assumption) ?_
   simp only [aP]
   refine wpAnyH_take (i := 4) (oi := qVr1) (v := .agg #[.slice a2 16 c2, .slice b2 16 d2]) rfl (by kernel_rfl) (by kernel_rfl) (by kernel_rfl) (fun _ _ _ h => h) (.inl ⟨by rfl, fun _ _ => by rfl⟩) (by assumption) ?_
   simp only [aP]
   refine wpAnyH_take (i := 5) (oi := qVr2) (v := .bool true) rfl (by kernel_rfl) (by kernel_rfl) (by kernel_rfl) (fun _ _ _ h => h) (.inl ⟨by rfl, fun _ _ => by rfl⟩) (by assumption) ?_
   simp only [aP]
   refine wpAnyH_ready (rs := [7]) (by kernel_rfl) (by simp) (AllReadyH.cons (o := qVr3) rfl (fun K hK => ?_) AllReadyH.nil)
   rw [if_pos (by rfl)]
   refine wp_store_mid _ _ _ rfl _ _ ([.slice a2 16 c2, .slice b2 16 d2]).toArray rfl rfl (by have := arr_there Ap; simpa using this) infoPt (all_oneCell_toArray (by simp [Value.oneCell'])) ?_
   simp only [Act.put]
   replace p2 := p2.sc i1 i2 (E := Xp) (by omega) ([.slice a2 16 c2, .slice b2 16 d2])
   replace Ap := Ap.sc0 ([.slice a2 16 c2, .slice b2 16 d2]) (by simp)
   replace fr := bel_sc fr Xp ([.slice a2 16 c2, .slice b2 16 d2]) (by omega)
   replace pa := pa.sc Xp ([.slice a2 16 c2, .slice b2 16 d2]) (by omega)
   replace pb := pb.sc Xp ([.slice a2 16 c2, .slice b2 16 d2]) (by omega)
   replace pc := pc.sc Xp ([.slice a2 16 c2, .slice b2 16 d2]) (by omega)
   obtain ⟨V12, hVe⟩ : ∃ V, V = y11.setCells Xp 0 ([.slice a2 16 c2, .slice b2 16 d2]) := ⟨_, rfl⟩
   rw [← hVe] at p2 Ap fr pa pb pc ⊢
   clear hVe
   refine hK.out _ _ (arr_range pa) (fun hHeld => ?_)
   clear hK K
   refine wpAnyH_ready (rs := [8]) (by kernel_rfl) (by simp) (AllReadyH.cons (o := { dst := some 8, op := Op.assign (Operand.tmp 20), type := 4, pos := "l07_sign.go:123", after := #[{ on := 5, ground := Ground.data }, { on := 7, ground := Ground.chain }, { on := 0, ground := Ground.phase }, { on := 1, ground := Ground.phase }, { on := 2, ground := Ground.phase }, { on := 3, ground := Ground.phase }, { on := 4, ground := Ground.phase }, { on := 5, ground := Ground.phase }, { on := 6, ground := Ground.phase }, { on := 7, ground := Ground.phase }], guard := none }) rfl (fun K hK => ?_) AllReadyH.nil)
   go_simp
   refine hK.out _ _ (arr_range pa) (fun hHeld => ?_)
   clear hK K
   refine wpAnyH_done (by kernel_rfl) ?_ _
   go_wp2
   go_meet
   case rel => exact ⟨Xp, a2, c2, b2, d2, rfl, Ap, p2.pi, fr, pb, pc⟩
 case rest =>
  clear fr pa pb pc
  obtain ⟨Xp, a2, c2, b2, d2, rfl, Ap, p2, fr, pb, pc⟩ := hcut
  obtain ⟨C1, hwc⟩ : ∃ V, V = wc := ⟨_, rfl⟩
  rw [← hwc] at Ap p2 fr pb pc ⊢
  clear hwc
  have q0 : C1.cell? ⟨w.heap.size + 1, 0, none⟩ = some (Value.slice ax 16 cx') := pb.cell 0
  have q1 : C1.cell? ⟨w.heap.size + 1, 1, none⟩ = some (Value.slice ay 16 cy) := pb.cell 1
  have q2 : C1.cell? ⟨w.heap.size + 2, 0, none⟩ = some (Value.slice ak 16 ck) := pc.cell 0
  go_wp2_with fail
  clear q0 q1 q2
  clear pb
  clear pc
  refine (H3.out _ fr).mono ?_
  rintro e y13 ⟨a3, c3, b3, d3, rfl, p3, hb13⟩
  replace fr := fr.trans (hb13.mono fr.size)
  replace Ap := Ap.kept hb13
  replace p2 := p2.below hb13
  clear hb13
  go_upto_region 3 with fail
  obtain ⟨Z3, hV⟩ : ∃ Z, Z = y13.alloc (.cells #[.slice a3 16 c3, .slice b3 16 d3] 33) := ⟨_, rfl⟩
  have bV : Below y13.heap.size y13 Z3 := by rw [hV]; exact (Below.refl _ _).alloc (Nat.le_refl _) _
  have A3 : Arr Z3 y13.heap.size 33 [.slice a3 16 c3, .slice b3 16 d3] := by rw [hV]; exact Arr.new _ _ _
  rw [← hV]
  replace fr := fr.trans (bV.mono fr.size)
  replace Ap := Ap.kept bV
  replace p2 := p2.below bV
  replace p3 := p3.below bV
  clear hV bV
  obtain ⟨X3, hX⟩ : ∃ X, X = y13.heap.size := ⟨_, rfl⟩
  rw [← hX] at A3 ⊢
  clear hX
  have q0 : Z3.cell? ⟨X3, 0, none⟩ = some (Value.slice a3 16 c3) := A3.cell 0
  have q1 : Z3.cell? ⟨X3, 1, none⟩ = some (Value.slice b3 16 d3) := A3.cell 1
  go_wp2_with fail
  clear q0 q1
  clear A3
  refine (H4.out _ _ _ _ _ p3.pi fr).mono ?_
  rintro e y14 ⟨a4, c4, b4, d4, rfl, p4, hb14⟩
  replace fr := fr.trans (hb14.mono fr.size)
  replace Ap := Ap.kept hb14
  replace p2 := p2.below hb14
  replace p3 := p3.below hb14
  clear hb14
  clear p3
  go_upto_region 4 with fail
  obtain ⟨Z4, hV⟩ : ∃ Z, Z = y14.alloc (.cells #[.slice a4 16 c4, .slice b4 16 d4] 33) := ⟨_, rfl⟩
  have bV : Below y14.heap.size y14 Z4 := by rw [hV]; exact (Below.refl _ _).alloc (Nat.le_refl _) _
  have A4 : Arr Z4 y14.heap.size 33 [.slice a4 16 c4, .slice b4 16 d4] := by rw [hV]; exact Arr.new _ _ _
  rw [← hV]
  replace fr := fr.trans (bV.mono fr.size)
  replace Ap := Ap.kept bV
  replace p2 := p2.below bV
  replace p4 := p4.below bV
  clear hV bV
  obtain ⟨X4, hX⟩ : ∃ X, X = y14.heap.size := ⟨_, rfl⟩
  rw [← hX] at A4 ⊢
  clear hX
  have q0 : Z4.cell? ⟨Xp, 0, none⟩ = some (Value.slice a2 16 c2) := Ap.cell 0
  have q1 : Z4.cell? ⟨Xp, 1, none⟩ = some (Value.slice b2 16 d2) := Ap.cell 1
  have q2 : Z4.cell? ⟨X4, 0, none⟩ = some (Value.slice a4 16 c4) := A4.cell 0
  have q3 : Z4.cell? ⟨X4, 1, none⟩ = some (Value.slice b4 16 d4) := A4.cell 1
  go_wp2_with fail
  clear q0 q1 q2 q3
  clear Ap
  clear A4
  refine (H5.out _ _ _ _ _ _ _ _ _ p2 p4.pi fr).mono ?_
  rintro e y15 ⟨a5, c5, b5, d5, rfl, p5, hb15⟩
  replace fr := fr.trans (hb15.mono fr.size)
  replace p2 := p2.below hb15
  replace p4 := p4.below hb15
  clear hb15
  clear p2
  clear p4
  go_upto_region 5 with fail
  obtain ⟨Z5, hV⟩ : ∃ Z, Z = y15.alloc (.cells #[.slice a5 16 c5, .slice b5 16 d5] 33) := ⟨_, rfl⟩
  have bV : Below y15.heap.size y15 Z5 := by rw [hV]; exact (Below.refl _ _).alloc (Nat.le_refl _) _
  have A5 : Arr Z5 y15.heap.size 33 [.slice a5 16 c5, .slice b5 16 d5] := by rw [hV]; exact Arr.new _ _ _
  rw [← hV]
  replace fr := fr.trans (bV.mono fr.size)
  replace p5 := p5.below bV
  clear hV bV
  obtain ⟨X5, hX⟩ : ∃ X, X = y15.heap.size := ⟨_, rfl⟩
  rw [← hX] at A5 ⊢
  clear hX
  have q0 : Z5.cell? ⟨X5, 0, none⟩ = some (Value.slice a5 16 c5) := A5.cell 0
  have q1 : Z5.cell? ⟨X5, 1, none⟩ = some (Value.slice b5 16 d5) := A5.cell 1
  go_wp2_with fail
  clear q0 q1
  refine (H6.out _ _ _ _ _ p5.pi fr).mono ?_
  rintro e z ⟨v, rfl, ho, hb⟩
  go_wp2
  go_ret
  exact ⟨v, rfl, own_base ho fr.size, fr.trans (hb.mono fr.size)⟩
end
section
variable [NeZero pN]
end
set_option maxHeartbeats 2000000 in
theorem implOrderSettled (m : List Int) (w : World) (hm : m.length = 16) (hq : Sq (val m)) (hV : Vr w 6 (I64 OL)) :
  Calls Tryz.prog 134 #[.agg (I64 (crd m)).toArray] w fun e w' => e = .returned (.agg (I64 (redO (val m))).toArray) ∧ Below w.heap.size w w' := by
 have hg0 := hV.lt
 obtain ⟨n, hn⟩ : ∃ n, n = crd m := ⟨_, rfl⟩
 have hl : n.length = 16 := by rw [hn]; exact crd_len hm
 obtain ⟨t, ht⟩ : ∃ t, t = tms (val m) := ⟨_, rfl⟩
 have hlast : n.getD 15 0 / 4096 - 1 = t := by rw [hn, crd_last hm, ht]; rfl
 have htb := tms_bd hq
 have hcb := crd_bdS hm hq
 rw [← hn] at hcb
 rw [← ht] at htb
 have hx15 := getD_of (p := fun x => 0 ≤ x ∧ x < 1073741824) hcb (by omega) 15
 obtain ⟨x15, hx15e⟩ : ∃ x, x = n.getD 15 0 := ⟨_, rfl⟩
 rw [← hx15e] at hx15 hlast
 obtain ⟨zs, hzs⟩ : ∃ zs, zs = ost t n := ⟨_, rfl⟩
 have hzl : zs.length = 16 := by rw [hzs]; exact ost_len hl
 have hzc : Cb zs := by rw [hzs]; exact cb_of (ost_bd htb.1 htb.2 hcb)
 have hzx : ∀ k, k < 16 → zs.getD k 0 = n.getD k 0 - t * OL.getD k 0 := by
  intro k hk
  rw [hzs]
  exact zip_at _ hl OL_len k hk
 have hst := settled hm hq
 rw [← ht, ← hn, ← hzs] at hst
 obtain ⟨X, hX⟩ : ∃ X, X = val m - t * qO := ⟨_, rfl⟩
 have hXb := tms_val hq
 rw [← ht, ← hX] at hXb
 rw [← hX] at hst
 obtain ⟨R, hR⟩ : ∃ R, R = redO (val m) := ⟨_, rfl⟩
 have hRl : R.length = 16 := by rw [hR]; exact redO_len _
 have hXR : redO X = R := by
  have hls := lessO hXb.1 hXb.2
  rw [hR, ← hst.2]
  split
  ·rename_i h; exact (hls.1 h).symm
  ·rename_i h; exact (hls.2 h).symm
 have HCR : Hid (∀ Z, Calls Tryz.prog 133 #[.agg (I64 zs).toArray] Z fun e w' => e = .returned (.agg (I64 (lim 16 X)).toArray) ∧ Below Z.heap.size Z w') := by
  unfold Hid; intro Z
  have := implCarried zs Z hzl hzc
  rw [hst.1] at this
  exact this
 have HLS : Hid (∀ Z, Calls Tryz.prog 126 #[.agg (I64 (lim 16 X)).toArray, .agg (I64 OL).toArray] Z fun e w' => e = .returned (.agg (I64 R).toArray) ∧ Below Z.heap.size Z w') := by
  unfold Hid; intro Z; rw [← hXR]; exact implLessO _ Z hXb.1 hXb.2
 have HZX : Hid _ := hzx
 have HCB : Hid _ := hcb
 rw [← hn, ← hR]
 obtain ⟨T, hT⟩ : ∃ T, T = lim 16 X := ⟨_, rfl⟩
 rw [← hT] at HCR HLS
 obtain ⟨W, hW⟩ : ∃ W, W = (w.alloc (.cells (I64 n).toArray 65)).alloc (.cells zV 92) := ⟨_, rfl⟩
 have EE : M2 w W n := by rw [hW]; exact M2.new n hV
 have c15 : W.cell? ⟨w.heap.size, 15, none⟩ = some (.int .i64 x15) := by rw [EE.pa.i64 15 (by omega), hx15e]
 obtain ⟨A, hA⟩ : ∃ A, A = (I64 n).toArray := ⟨_, rfl⟩
 rw [← hA] at hW ⊢
 rw [hW] at c15
 have s0 : IntKind.i64.wrap (x15 / 4096 - 1) = t := by rw [hlast, IntKind.wrap_i64]; omega
 obtain ⟨gt, gz, hg⟩ := EE.vr
 have hg0 := hW ▸ hg
 have hip : (Tryz.prog.info? 65).map (·.size) = some (I64 OL).toArray.size := infoL
 have hw0 := hV.lt
 clear hn ht hlast hcb hzs hzc hzx hst hX hXb hR hXR hT hA hV hq hm hx15e
 go_enter Tryz.func134, Tryz.ntmps134
 go_wp2_with (refine wpList_load_row rfl 65 _ rfl 6 rfl gt (I64 OL).toArray gz _ hg0 Tryz.underlying65 rfl hip ?_)
 rw [← hW]
 clear hW c15 hg0 hg
 have h0 : Arr W w.heap.size 65 (I64 (zs.take 0 ++ n.drop 0)) := EE.pa
 have h1 := EE.pr
 have h2 := EE.vr
 have hBl := EE.fr
 clear EE
 go_loopw [11] (fun i wr => ∃ k : Nat, k ≤ 16 ∧ i = .int .i64 k ∧ Arr wr w.heap.size 65 (I64 (zs.take k ++ n.drop k)) ∧ Arr wr (w.heap.size + 1) 92 (I64 Z16) ∧ Vr wr 6 (I64 OL) ∧ Below w.heap.size w wr) (fun i _ => 16 - (intOf i).toNat)
 case atStart => exact ⟨0, by omega, rfl, h0, h1, h2, hBl⟩
 case round =>
  clear h0 h1 h2 hBl
  obtain ⟨k, hk, rfl, h0, h1, h2, hBl⟩ := hrel
  have hfl : (zs.take k).length = k := by simp; omega
  by_cases hlt : k < 16
  ·obtain ⟨x, hx⟩ : ∃ x, x = n.getD k 0 := ⟨_, rfl⟩
   obtain ⟨y, hy⟩ : ∃ y, y = OL.getD k 0 := ⟨_, rfl⟩
   have ix := fun w => index_arr Tryz.underlying65 Tryz.underlying3 infoL1 OL OL_len k hlt w
   rw [← hy] at ix
   have cx : wr.cell? ⟨w.heap.size, k, none⟩ = some (.int .i64 x) := by
    rw [h0.i64 k (by rw [len_app hfl (by omega)]; omega), get_app hfl, hx]
   have bx := getD_of (p := fun x => 0 ≤ x ∧ x < 1073741824) HCB.out (by omega) k
   have by' := gD_lm OL_lm k
   rw [← hx] at bx
   rw [← hy] at by'
   have hz := HZX.out k hlt
   rw [← hx, ← hy] at hz
   obtain ⟨p, hp⟩ : ∃ p, p = t * y := ⟨_, rfl⟩
   have hp0 : -65536 ≤ p ∧ p ≤ 17179869184 := by
    have a1 : t * y ≤ 262144 * y := Int.mul_le_mul_of_nonneg_right (by omega) by'.1
    have a2 : -1 * y ≤ t * y := Int.mul_le_mul_of_nonneg_right htb.1 by'.1
    omega
   rw [← hp] at hz
   have hts := take_app zs k (by omega)
   rw [hz] at hts
   have hfz := h0.frozen k
   have h0' := h0.set k (.int .i64 (x - p))
   rw [set_app hfl (show k < n.length by omega), ← hts] at h0'
   have h1' := h1.other ⟨w.heap.size, k, none⟩ (.int .i64 (x - p)) (by simp)
   have h2' := h2.other ⟨w.heap.size, k, none⟩ (.int .i64 (x - p)) (by simp only; omega)
   have hb' := hBl.setCell (p := ⟨w.heap.size, k, none⟩) (Nat.le_refl _) (.int .i64 (x - p))
   have s1 : IntKind.i64.wrap (t * y) = p := by rw [← hp, IntKind.wrap_i64]; omega
   have s2 : IntKind.i64.wrap (x - p) = x - p := by rw [IntKind.wrap_i64]; omega
   have hk16 : (k : Int) < 16 := by omega
   have hk0 : (0 : Int) ≤ (k : Int) := by omega
   have H0 : Hid _ := h0'
   have H1 : Hid _ := h1'
   have H2 : Hid _ := h2'
   have HB : Hid _ := hb'
   clear h0' h1' h2' hb' h0 h1 h2 hBl hx hy hz hts hp
   go_wp2
   go_roundw
   case rel => exact ⟨k + 1, by omega, by go_num, H0.out, H1.out, H2.out, HB.out⟩
   case measure => simp [intOf]; omega
  ·obtain rfl : k = 16 := by omega
   rw [List.take_of_length_le (by omega), List.drop_eq_nil_of_le (by omega), List.append_nil] at h0
   have EE : M2 w wr.drew zs := (⟨hBl, h0, h1, h2, hg0⟩ : M2 w wr zs).go (Below.refl _ _).drew
   have hone := one_lm R
   have hu : Tryz.prog.underlying 65 = some (.array 16 3) := Tryz.underlying65
   have hiz : (Tryz.prog.info? 65).map (·.size) = some (I64 zs).length := by simpa [hzl] using infoL
   have hio : (Tryz.prog.info? 65).map (·.size) = some (I64 OL).length := infoL
   have hir : (Tryz.prog.info? 92).map (·.size) = some (I64 R).toArray.size := by simpa [hRl] using infoM
   clear hfl h0 h1 h2 hBl HZX HCB
   go_wp2
   refine wp_region_held_drew (S := fun W => W.rangeAt w.heap.size 0 (I64 zs) ∧ W.rangeAt 6 0 (I64 OL)) (by kernel_rfl) EE.all (fun hHeld => ?_)
   refine wpAnyH_take (i := 0) (oi := { dst := some 24, op := Op.load 65 (Operand.tmp 1), type := 65, pos := "l05_scalar.go:122", after := #[], guard := none }) (v := _) rfl (by kernel_rfl) (by kernel_rfl) (by kernel_rfl) (fun _ _ _ h => h) (yieldsIf_load_mid (by rfl) _ _ rfl _ _ rfl (I64 zs) _ (fun _ h => h.1) hu rfl hiz) (by assumption) ?_
   simp only [aP]
   refine wpAnyH_take (i := 2) (oi := { dst := some 26, op := Op.load 65 (Operand.global 6), type := 65, pos := "l05_scalar.go:122", after := #[], guard := none }) (v := _) rfl (by kernel_rfl) (by kernel_rfl) (by kernel_rfl) (fun _ _ _ h => h) (yieldsIf_load_mid (by rfl) _ _ rfl _ _ rfl (I64 OL) _ (fun _ h => h.2) hu rfl hio) (by assumption) ?_
   simp only [aP]
   refine wpAnyH_ready (rs := [1]) (by kernel_rfl) (by simp) (AllReadyH.cons (o := { dst := some 25, op := Op.call { callee := Callee.value (Operand.func 133), args := #[Operand.tmp 24], argTypes := #[65] }, type := 65, pos := "l05_scalar.go:122", after := #[{ on := 0, ground := Ground.data }], guard := none }) rfl (fun K hK => ?_) AllReadyH.nil)
   go_simp
   refine (HCR.out _).mono ?_
   rintro e w1 ⟨rfl, hb1⟩
   replace EE := EE.go hb1
   go_wp2_with fail
   refine hK.out _ _ EE.all (fun hHeld => ?_)
   clear hK K hb1
   refine wpAnyH_ready (rs := [3]) (by kernel_rfl) (by simp) (AllReadyH.cons (o := { dst := some 27, op := Op.call { callee := Callee.value (Operand.func 126), args := #[Operand.tmp 25, Operand.tmp 26], argTypes := #[65, 65] }, type := 65, pos := "l05_scalar.go:122", after := #[{ on := 1, ground := Ground.data }, { on := 2, ground := Ground.data }, { on := 1, ground := Ground.chain }], guard := none }) rfl (fun K hK => ?_) AllReadyH.nil)
   go_simp
   refine (HLS.out _).mono ?_
   rintro e w2 ⟨rfl, hb2⟩
   replace EE := EE.go hb2
   go_wp2_with fail
   refine hK.out _ _ EE.all (fun hHeld => ?_)
   clear hK K hb2
   refine wpAnyH_take (i := 4) (oi := { dst := some 28, op := Op.build 92 #[(0, Operand.tmp 27)], type := 92, pos := "l05_scalar.go:122", after := #[{ on := 3, ground := Ground.data }], guard := none }) (v := _) rfl (by kernel_rfl) (by kernel_rfl) (by kernel_rfl) (fun _ _ _ h => h) (yieldsIf_mu (by rfl) _ rfl R hRl rfl) (by assumption) ?_
   simp only [aP]
   obtain ⟨hA5, hB5, hS5, hth⟩ := EE.put hRl
   refine wpAnyH_ready (rs := [5]) (by kernel_rfl) (by simp) (AllReadyH.cons (o := { dst := none, op := Op.store 92 (Operand.tmp 2) (Operand.tmp 28), type := 0, pos := "l05_scalar.go:122", after := #[{ on := 4, ground := Ground.data }, { on := 3, ground := Ground.chain }, { on := 0, ground := Ground.phase }, { on := 1, ground := Ground.phase }, { on := 2, ground := Ground.phase }, { on := 3, ground := Ground.phase }, { on := 4, ground := Ground.phase }], guard := none }) rfl (fun K hK => ?_) AllReadyH.nil)
   rw [if_pos (by rfl)]
   refine wp_store_mid _ _ _ rfl _ _ (I64 R).toArray rfl rfl hth hir (all_oneCell_toArray hone) ?_
   simp only [Act.put]
   refine hK.out _ _ hS5 (fun hHeld => ?_)
   clear hK K
   refine wpAnyH_done (by kernel_rfl) ?_ _
   go_wp2
   exact bodyPost_ret (results_cell_row rfl _ _ (w.heap.size + 1) 92 (I64 R).toArray (0, 0) _ rfl hA5 Tryz.underlying92 rfl hir) rfl ⟨rfl, hB5⟩
end Go.Proofs.YtihoaakbkffejaaGreatDoor

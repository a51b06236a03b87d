/-
  What is proved here: what Verify asks; the contract of the program's faultOfSignature; where its variables hold what its text lays.
-/
import Derived.Test.YtihoaakbkffejaaGreatDoorVVr
import Derived.Test.YtihoaakbkffejaaGreatDoorVVn
import Derived.Test.YtihoaakbkffejaaGreatDoorVHc
import Derived.Test.YtihoaakbkffejaaGreatDoorVOhr
import Derived.Test.YtihoaakbkffejaaGreatDoorVJrd
namespace Go.Proofs.YtihoaakbkffejaaGreatDoor
open Go.RowKit
set_option maxRecDepth 100000

structure VarsV (w : World) (b : Addr) : Prop where
 g : VarsOk w
 Q : Vr w 9 (I64 QL)
 e0 : 2 < w.heap.size
 E : w.cell? ⟨2, 0, none⟩ = some (.iface 202 (.pointer (some b)))
theorem VarsV.kept {w W : World} {b : Addr} (h : VarsV w b) (k : Below w.heap.size w W) : VarsV W b := ⟨h.g.kept k, h.Q.kept k, Nat.lt_of_lt_of_le h.e0 k.size, (k.cell (p := ⟨2, 0, none⟩) h.e0).trans h.E⟩
def vfA (pub : List Int) : KF × KF := pt (rdX6 pub) (rdY6 pub)
def vfE (pub msg sig : List Int) : List Int := enc (@pAdd pN nzP dK ivK (@pMul pN nzP dK ivK (val (rdL (sig.drop 32))).toNat baseK) (@pNeg pN nzP (@pMul pN nzP dK ivK (val (mS (sig.take 32 ++ pub ++ msg))).toNat (vfA pub))))
def vfy (pub msg sig : List Int) : Bool := decide (msg.length ≤ 2000) && (decide (sig.length = 64) && (rdOk6 pub && (decide (val (rdL (sig.drop 32)) < qO) && decide (sig.take 32 = vfE pub msg sig))))
section
variable [NeZero pN]
theorem oRead (a : Option Addr) (n c : Nat) (bs : List Int) (w : World) (hx : Bs w a n c bs) (hG : VarsOk w) (hQ : Vr w 9 (I64 QL)) (hr : rdOk6 bs = true) :
  Calls Tryz.prog 15 #[.slice a n c] w fun e w' => ∃ a1 c1 b1 d1, e = .returned (.tuple #[.agg #[.slice a1 16 c1, .slice b1 16 d1], .bool true]) ∧ PI w' a1 c1 b1 d1 (vfA bs) ∧ Below w.heap.size w w' := by
 refine (implPtRead a n c bs w hx hG.P hG.D hQ).mono ?_
 rintro e w1 ⟨v, rfl, hv, hb⟩
 obtain ⟨p1, _⟩ := pt_rd hx.2.2.2.1 hr
 rw [hr]
 obtain ⟨a1, c1, b1, d1, rfl, hp⟩ := PO.of (P := vfA bs) hv (pt_cx p1).1.symm (pt_cx p1).2.symm
 exact ⟨a1, c1, b1, d1, rfl, hp.pi, hb⟩
theorem vfA_on {bs : List Int} (hb : ∀ x ∈ bs, 0 ≤ x ∧ x < 256) (hr : rdOk6 bs = true) : On dK (vfA bs) := pt_on (pt_rd hb hr).1
end
theorem oReadNo (a : Option Addr) (n c : Nat) (bs : List Int) (w : World) (hx : Bs w a n c bs) (hG : VarsOk w) (hQ : Vr w 9 (I64 QL)) (hr : rdOk6 bs = false) :
  Calls Tryz.prog 15 #[.slice a n c] w fun e w' => ∃ a1 n1 c1 b1 m1 d1, e = .returned (.tuple #[.agg #[.slice a1 n1 c1, .slice b1 m1 d1], .bool false]) ∧ Below w.heap.size w w' := by
 refine (implPtRead a n c bs w hx hG.P hG.D hQ).mono ?_
 rintro e w1 ⟨v, rfl, ⟨a1, c1, b1, d1, rfl, _⟩, hb⟩
 rw [hr]
 exact ⟨a1, _, c1, b1, _, d1, rfl, hb⟩
theorem oScRead (a : Option Addr) (n c : Nat) (bs : List Int) (w : World) (hx : Bs w a n c bs) (hG : VarsOk w) (hr : rdOkO bs = true) :
  Calls Tryz.prog 16 #[.slice a n c] w fun e w' => ∃ a1 c1, e = .returned (.tuple #[.agg #[.slice a1 16 c1], .bool true]) ∧ Is w' a1 16 c1 (rdL bs) ∧ Below w.heap.size w w' := by
 refine (implScRead a n c bs w hx hG.O).mono ?_
 rintro e w1 ⟨v, rfl, ⟨a1, c1, rfl, oo⟩, hb⟩
 have e2 : rdFO bs = rdL bs := by unfold rdFO; rw [if_pos hr]
 rw [e2, rdL_len] at oo ⊢
 rw [hr]
 exact ⟨a1, c1, rfl, is_of_own oo (fun x h => by have := rdL_lm hx.2.2.2.1 x h; omega), hb⟩
theorem oScReadNo (a : Option Addr) (n c : Nat) (bs : List Int) (w : World) (hx : Bs w a n c bs) (hG : VarsOk w) (hr : rdOkO bs = false) :
  Calls Tryz.prog 16 #[.slice a n c] w fun e w' => ∃ a1 n1 c1, e = .returned (.tuple #[.agg #[.slice a1 n1 c1], .bool false]) ∧ Below w.heap.size w w' := by
 refine (implScRead a n c bs w hx hG.O).mono ?_
 rintro e w1 ⟨v, rfl, ⟨a1, c1, rfl, _⟩, hb⟩
 rw [hr]
 exact ⟨a1, _, c1, rfl, hb⟩

set_option maxHeartbeats 8000000 in
theorem implFault (a : Option Addr) (n c : Nat) (ps : List Int) (b : Option Addr) (m d : Nat) (ms : List Int) (a' : Option Addr) (k c' : Nat) (ss : List Int) (w : World) (hp : Bs w a n c ps) (hm : Bs w b m d ms) (hs : Bs w a' k c' ss) (be : Addr) (hG : VarsV w be) :
  Calls Tryz.prog 46 #[.slice a n c, .slice b m d, .slice a' k c'] w fun e w' => (vfy ps ms ss = true ∧ e = .returned .nilIface ∨ vfy ps ms ss = false ∧ ∃ s, e = .returned (.iface 139 (.agg #[s]))) ∧ Below w.heap.size w w' := by
 haveI := nzP
 have lp : ps.length = n := hp.2.1
 have lm : ms.length = m := hm.2.1
 have lsg : ss.length = k := hs.2.1
 by_cases h1 : m ≤ 2000
 case neg =>
  have hv : Hid (vfy ps ms ss = false) := by unfold Hid vfy; rw [show decide (ms.length ≤ 2000) = false from decide_eq_false (by omega)]; rfl
  have hgt : (2000 : Int) < (m : Int) := by omega
  go_enter Tryz.func46, Tryz.ntmps46
  go_wp2
  go_ret
  exact ⟨.inr ⟨hv.out, _, rfl⟩, Below.refl _ _⟩
 have hle : ¬ ((2000 : Int) < (m : Int)) := by omega
 have d1 : decide (ms.length ≤ 2000) = true := decide_eq_true (by omega)
 by_cases h2 : k = 64
 case neg =>
  have hv : Hid (vfy ps ms ss = false) := by unfold Hid vfy; rw [show decide (ss.length = 64) = false from decide_eq_false (by omega), Bool.false_and, Bool.and_false]
  have hne : ((k : Int) != 64) = true := by simp; omega
  go_enter Tryz.func46, Tryz.ntmps46
  go_wp2
  go_ret
  exact ⟨.inr ⟨hv.out, _, rfl⟩, Below.refl _ _⟩
 subst h2
 have d2 : decide (ss.length = 64) = true := decide_eq_true lsg
 obtain ⟨gs, os, rfl⟩ : ∃ g o, a' = some ⟨g, o, none⟩ := by
  rcases hs.2.2.2.2 with h | ⟨b, o, h, _⟩
  ·omega
  ·exact ⟨b, o, h⟩
 have hcc : (32 : Int) ≤ (c' : Int) := by have := hs.2.2.1; omega
 have hcne : ¬ c' = 32 := by have := hs.2.2.1; omega
 cases h3 : rdOk6 ps with
 | false =>
  have hv : Hid (vfy ps ms ss = false) := by unfold Hid vfy; rw [h3, Bool.false_and, Bool.and_false, Bool.and_false]
  have HP : Hid (∃ _ : True, Calls Tryz.prog 15 #[.slice a n c] w fun e w' => ∃ a1 n1 c1 b1 m1 d1, e = .returned (.tuple #[.agg #[.slice a1 n1 c1, .slice b1 m1 d1], .bool false]) ∧ Below w.heap.size w w') := ⟨trivial, oReadNo a n c ps w hp hG.g hG.Q h3⟩
  go_enter Tryz.func46, Tryz.ntmps46
  go_wp2_with fail
  obtain ⟨_, HP⟩ := HP.out
  refine HP.mono ?_
  rintro e y1 ⟨a1, n1, c1, b1, m1, d1, rfl, hb1⟩
  go_wp2
  go_ret
  exact ⟨.inr ⟨hv.out, _, rfl⟩, hb1.trans ((Below.refl _ _).alloc hb1.size _)⟩
 | true =>
  have HP : Hid (∀ Z, Below w.heap.size w Z → Calls Tryz.prog 15 #[.slice a n c] Z fun e w' => ∃ a1 c1 b1 d1, e = .returned (.tuple #[.agg #[.slice a1 16 c1, .slice b1 16 d1], .bool true]) ∧ PI w' a1 c1 b1 d1 (vfA ps) ∧ Below Z.heap.size Z w') := by unfold Hid; intro Z hZ; exact oRead a n c ps Z (hp.below hZ) (hG.kept hZ).g (hG.kept hZ).Q h3
  have hAon := vfA_on hp.2.2.2.1 h3
  have l32 : ps.length = 32 := (rdOk6_parts h3).1
  have hd := hs.dropW (m := 32) (by omega)
  have ht := hs.takeW (m := 32) (by omega)
  have ld : (ss.drop 32).length = 32 := by simp [lsg]
  cases h4 : rdOkO (ss.drop 32) with
  | false =>
   have h4q : decide (val (rdL (ss.drop 32)) < qO) = false := by unfold rdOkO at h4; rw [ld] at h4; simpa using h4
   have hv : Hid (vfy ps ms ss = false) := by unfold Hid vfy; rw [h4q, Bool.false_and, Bool.and_false, Bool.and_false, Bool.and_false]
   have HR : Hid (∀ Z, Below w.heap.size w Z → Calls Tryz.prog 16 #[.slice (some ⟨gs, os + 32, none⟩) (64 - 32) (c' - 32)] Z fun e w' => ∃ a1 n1 c1, e = .returned (.tuple #[.agg #[.slice a1 n1 c1], .bool false]) ∧ Below Z.heap.size Z w') := by unfold Hid; intro Z hZ; exact oScReadNo _ _ _ _ Z (hd.below hZ) (hG.kept hZ).g h4
   clear hd ht
   go_enter Tryz.func46, Tryz.ntmps46
   go_wp2_with fail
   refine (HP.out _ (Below.refl _ _)).mono ?_
   rintro e y1 ⟨a1, c1, b1, d1, rfl, hA, fr⟩
   go_upto_region 6 with fail
   obtain ⟨Z1, hV⟩ : ∃ Z, Z = y1.alloc (.cells #[.slice a1 16 c1, .slice b1 16 d1] 33) := ⟨_, rfl⟩
   have bV : Below y1.heap.size y1 Z1 := by rw [hV]; exact (Below.refl _ _).alloc (Nat.le_refl _) _
   have AA : Arr Z1 y1.heap.size 33 [.slice a1 16 c1, .slice b1 16 d1] := by rw [hV]; exact Arr.new _ _ _
   rw [← hV]
   replace fr := fr.trans (bV.mono fr.size)
   replace hA := hA.below bV
   clear hV bV
   obtain ⟨XA, hX⟩ : ∃ X, X = y1.heap.size := ⟨_, rfl⟩
   rw [← hX] at AA ⊢
   clear hX
   go_wp2_with fail
   refine (HR.out _ fr).mono ?_
   rintro e y2 ⟨a2, n2, c2, rfl, hb2⟩
   go_wp2
   go_ret
   exact ⟨.inr ⟨hv.out, _, rfl⟩, (fr.trans (hb2.mono fr.size)).trans ((Below.refl _ _).alloc (fr.trans (hb2.mono fr.size)).size _)⟩
  | true =>
   have h4q : decide (val (rdL (ss.drop 32)) < qO) = true := by unfold rdOkO at h4; rw [ld] at h4; simpa using h4
   have hsc : scOk (rdL (ss.drop 32)) = true := (scOk_iff _).2 ⟨rdL_len _, rdL_lm (drop_byte hs.2.2.2.1 32), of_decide_eq_true h4q⟩
   have HR : Hid (∀ Z, Below w.heap.size w Z → Calls Tryz.prog 16 #[.slice (some ⟨gs, os + 32, none⟩) (64 - 32) (c' - 32)] Z fun e w' => ∃ a1 c1, e = .returned (.tuple #[.agg #[.slice a1 16 c1], .bool true]) ∧ Is w' a1 16 c1 (rdL (ss.drop 32)) ∧ Below Z.heap.size Z w') := by unfold Hid; intro Z hZ; exact oScRead _ _ _ _ Z (hd.below hZ) (hG.kept hZ).g h4
   obtain ⟨KM, eK⟩ : ∃ K, K = mS (ss.take 32 ++ ps ++ ms) := ⟨_, rfl⟩
   have kok : scOk KM = true := by rw [eK]; exact mS_ok _
   have NK : Hid _ := sc_int kok
   have HM : Hid (∀ g Z, Below w.heap.size w Z → g < Z.heap.size → Z.cell? ⟨g, 0, none⟩ = some (.slice (some ⟨gs, os, none⟩) 32 c') → Z.cell? ⟨g, 1, none⟩ = some (.slice a n c) → Z.cell? ⟨g, 2, none⟩ = some (.slice b m d) → Calls Tryz.prog 35 #[.slice (some ⟨g, 0, none⟩) 3 3] Z fun e w' => ∃ a' c', e = .returned (.agg #[.slice a' 16 c']) ∧ w'.ownsRow Z.heap.size 65 1 (.slice a' 16 c') 16 (I64 KM) ∧ Below Z.heap.size Z w') := by unfold Hid; intro g Z hZ hg q0 q1 q2; rw [eK]; exact implMSum3 g _ 32 c' _ a n c _ b m d ms Z hg q0 q1 q2 (ht.below hZ) (hp.below hZ) (hm.below hZ) (by omega) (hG.kept hZ).g
   obtain ⟨E, eE⟩ : ∃ E, E = vfE ps ms ss := ⟨_, rfl⟩
   have HW : Hid (∀ az cz ax cx ay cy ak ck Z, Below w.heap.size w Z → Is Z az 16 cz (rdL (ss.drop 32)) → PI Z ax cx ay cy (vfA ps) → Is Z ak 16 ck KM → Calls Tryz.prog 89 #[.agg #[.slice az 16 cz], .agg #[.slice ax 16 cx, .slice ay 16 cy], .agg #[.slice ak 16 ck]] Z fun e w' => ∃ g' o' c', e = .returned (.slice (some ⟨g', o', none⟩) 32 c') ∧ Bs w' (some ⟨g', o', none⟩) 32 c' E ∧ Below Z.heap.size Z w') := by
    unfold Hid; intro az cz ax cx' ay cy ak ck Z hZ h1 h2 h3; refine (implWithout az cz _ ax cx' ay cy (vfA ps) ak ck KM Z h1 h2 h3 hAon hsc kok (hG.kept hZ).g).mono ?_
    rintro e w' ⟨v, rfl, ho, hb⟩; obtain ⟨a9, c9, rfl, _, hB⟩ := Bs.own ho (enc_byte _)
    obtain ⟨g9, o9, rfl⟩ : ∃ g o, a9 = some ⟨g, o, none⟩ := by
     rcases hB.2.2.2.2 with h | ⟨b, o, h, _⟩
     ·omega
     ·exact ⟨b, o, h⟩
    rw [eE, vfE, ← eK]; exact ⟨g9, o9, c9, rfl, hB, hb⟩
   have HEq : Hid (∀ g' o' c9 Z, Below w.heap.size w Z → Bs Z (some ⟨g', o', none⟩) 32 c9 E → Calls Tryz.prog 88 #[.slice (some ⟨gs, os, none⟩) 32 c', .slice (some ⟨g', o', none⟩) 32 c9] Z fun e w' => e = .returned (.bool (decide (ss.take 32 = E))) ∧ Below Z.heap.size Z w') := by
    unfold Hid; intro g' o' c9 Z hZ h; refine (equalB _ _ _ _ _ _ _ _ _ _ Z (ht.below hZ) h).mono ?_; rintro e w' ⟨rfl, rfl⟩; exact ⟨rfl, Below.refl _ _⟩
   have hvf : vfy ps ms ss = decide (ss.take 32 = E) := by unfold vfy; rw [d1, d2, h3, h4q, eE]; rfl
   obtain ⟨z, ez⟩ : ∃ z, z = decide (ss.take 32 = E) := ⟨_, rfl⟩
   rw [← ez] at HEq hvf
   have HV : Hid _ := hvf
   have huS : Tryz.prog.underlying 41 = some _ := Tryz.underlying41
   have huP : Tryz.prog.underlying 33 = some _ := Tryz.underlying33
   clear ez hvf eK eE hd ht hG hp hm hs hsc kok
   go_enter Tryz.func46, Tryz.ntmps46
   go_wp2_with fail
   refine (HP.out _ (Below.refl _ _)).mono ?_
   rintro e y1 ⟨a1, c1, b1, d1, rfl, hA, fr⟩
   go_upto_region 6 with fail
   obtain ⟨Z1, hV⟩ : ∃ Z, Z = y1.alloc (.cells #[.slice a1 16 c1, .slice b1 16 d1] 33) := ⟨_, rfl⟩
   have bV : Below y1.heap.size y1 Z1 := by rw [hV]; exact (Below.refl _ _).alloc (Nat.le_refl _) _
   have AA : Arr Z1 y1.heap.size 33 [.slice a1 16 c1, .slice b1 16 d1] := by rw [hV]; exact Arr.new _ _ _
   rw [← hV]
   replace fr := fr.trans (bV.mono fr.size)
   replace hA := hA.below bV
   clear hV bV
   obtain ⟨XA, hX⟩ : ∃ X, X = y1.heap.size := ⟨_, rfl⟩
   rw [← hX] at AA ⊢
   clear hX
   go_wp2_with fail
   refine (HR.out _ fr).mono ?_
   rintro e y1 ⟨a2, c2, rfl, hS, hb1⟩
   replace fr := fr.trans (hb1.mono fr.size)
   replace hA := hA.below hb1
   replace AA := AA.kept hb1
   clear hb1
   go_upto_region 12 with fail
   obtain ⟨Z2, hV⟩ : ∃ Z, Z = y1.alloc (.cells #[.slice a2 16 c2] 41) := ⟨_, rfl⟩
   have bV : Below y1.heap.size y1 Z2 := by rw [hV]; exact (Below.refl _ _).alloc (Nat.le_refl _) _
   have AS : Arr Z2 y1.heap.size 41 [.slice a2 16 c2] := by rw [hV]; exact Arr.new _ _ _
   rw [← hV]
   replace fr := fr.trans (bV.mono fr.size)
   replace hA := hA.below bV
   replace AA := AA.kept bV
   replace hS := hS.below bV
   clear hV bV
   obtain ⟨XS, hX⟩ : ∃ X, X = y1.heap.size := ⟨_, rfl⟩
   rw [← hX] at AS ⊢
   clear hX
   try simp only [Act.put]
   have bD : Below Z2.heap.size Z2 Z2.drew := (Below.refl _ _).drew
   replace fr := fr.trans (bD.mono fr.size)
   replace hA := hA.below bD
   replace AA := AA.kept bD
   replace hS := hS.below bD
   replace AS := AS.kept bD
   clear bD
   refine wp_region_held_drew (S := fun W => W.rangeAt XS 0 [.slice a2 16 c2] ∧ W.rangeAt XA 0 [.slice a1 16 c1, .slice b1 16 d1]) (by kernel_rfl) ⟨arr_range AS, arr_range AA⟩ (fun hHeld => ?_)
   obtain ⟨D2, hD⟩ : ∃ V, V = Z2.drew := ⟨_, rfl⟩
   rw [← hD] at hHeld fr hA AA hS AS ⊢
   clear hD
   refine wpAnyH_take (i := 0) (oi := { dst := some 42, op := Op.move (Operand.tmp 9), type := 22, pos := "l07_sign.go:93", after := #[], guard := none }) (v := .slice (some ⟨gs, os, none⟩) 32 c') rfl (by kernel_rfl) (by kernel_rfl) (by kernel_rfl) (fun _ _ _ h => h) (.inl ⟨by rfl, fun _ _ => by rfl⟩) (by assumption) ?_
   simp only [Act.put, List.setIfInBounds_toArray, List.set_cons_zero, List.set_cons_succ]
   refine wpAnyH_take (i := 1) (oi := { dst := some 43, op := Op.load 41 (Operand.tmp 10), type := 41, pos := "l07_sign.go:93", after := #[], guard := none }) (v := _) rfl (by kernel_rfl) (by kernel_rfl) (by kernel_rfl) (fun _ _ _ h => h) (yieldsIf_load_mid (by rfl) _ _ rfl _ _ rfl ([.slice a2 16 c2]) _ (fun _ h => h.1) huS rfl infoSc) (by assumption) ?_
   simp only [Act.put, List.setIfInBounds_toArray, List.set_cons_zero, List.set_cons_succ]
   refine wpAnyH_take (i := 2) (oi := { dst := some 44, op := Op.load 33 (Operand.tmp 7), type := 33, pos := "l07_sign.go:93", after := #[], guard := none }) (v := _) rfl (by kernel_rfl) (by kernel_rfl) (by kernel_rfl) (fun _ _ _ h => h) (yieldsIf_load_mid (by rfl) _ _ rfl _ _ rfl ([.slice a1 16 c1, .slice b1 16 d1]) _ (fun _ h => h.2) huP rfl infoPt) (by assumption) ?_
   simp only [Act.put, List.setIfInBounds_toArray, List.set_cons_zero, List.set_cons_succ]
   refine wpAnyH_take (i := 3) (oi := { dst := some 45, op := Op.move (Operand.tmp 9), type := 22, pos := "l07_sign.go:93", after := #[], guard := none }) (v := .slice (some ⟨gs, os, none⟩) 32 c') rfl (by kernel_rfl) (by kernel_rfl) (by kernel_rfl) (fun _ _ _ h => h) (.inl ⟨by rfl, fun _ _ => by rfl⟩) (by assumption) ?_
   simp only [Act.put, List.setIfInBounds_toArray, List.set_cons_zero, List.set_cons_succ]
   refine wpAnyH_take (i := 4) (oi := { dst := some 46, op := Op.move (Operand.tmp 0), type := 22, pos := "l07_sign.go:93", after := #[], guard := none }) (v := .slice a n c) rfl (by kernel_rfl) (by kernel_rfl) (by kernel_rfl) (fun _ _ _ h => h) (.inl ⟨by rfl, fun _ _ => by rfl⟩) (by assumption) ?_
   simp only [Act.put, List.setIfInBounds_toArray, List.set_cons_zero, List.set_cons_succ]
   refine wpAnyH_take (i := 5) (oi := { dst := some 47, op := Op.move (Operand.tmp 1), type := 22, pos := "l07_sign.go:93", after := #[], guard := none }) (v := .slice b m d) rfl (by kernel_rfl) (by kernel_rfl) (by kernel_rfl) (fun _ _ _ h => h) (.inl ⟨by rfl, fun _ _ => by rfl⟩) (by assumption) ?_
   simp only [Act.put, List.setIfInBounds_toArray, List.set_cons_zero, List.set_cons_succ]
   refine wpAnyH_ready (rs := [6]) (by kernel_rfl) (by simp) (AllReadyH.cons (o := { dst := some 48, op := Op.buildSlice 126 3 #[(0, Operand.tmp 45), (1, Operand.tmp 46), (2, Operand.tmp 47)], type := 126, pos := "l07_sign.go:93", after := #[{ on := 3, ground := Ground.data }, { on := 4, ground := Ground.data }, { on := 5, ground := Ground.data }], guard := none }) rfl (fun K hK => ?_) AllReadyH.nil)
   go_simp
   obtain ⟨V3, hVe⟩ : ∃ V, V = D2.alloc (.cells #[.slice (some ⟨gs, os, none⟩) 32 c', .slice a n c, .slice b m d] 22) := ⟨_, rfl⟩
   have bV : Below D2.heap.size D2 V3 := by rw [hVe]; exact (Below.refl _ _).alloc (Nat.le_refl _) _
   have Ab : Arr V3 D2.heap.size 22 ([.slice (some ⟨gs, os, none⟩) 32 c', .slice a n c, .slice b m d]) := by rw [hVe]; exact Arr.new _ ([.slice (some ⟨gs, os, none⟩) 32 c', .slice a n c, .slice b m d]) _
   have hXb : XA < D2.heap.size ∧ XS < D2.heap.size ∧ True := ⟨AA.lt, AS.lt, trivial⟩
   obtain ⟨Xb, hXe⟩ : ∃ X, X = D2.heap.size := ⟨_, rfl⟩
   have sXb : D2.heap.size ≤ Xb := Nat.le_of_eq hXe.symm
   have uXbfr := fr.size
   replace fr := fr.trans (bV.mono fr.size)
   replace hA := hA.below bV
   replace AA := AA.kept bV
   replace hS := hS.below bV
   replace AS := AS.kept bV
   rw [← hVe]
   rw [← hXe] at Ab hXb ⊢
   clear hVe hXe bV
   refine hK.out _ _ ⟨arr_range AS, arr_range AA⟩ (fun hHeld => ?_)
   clear hK K
   refine wpAnyH_ready (rs := [7]) (by kernel_rfl) (by simp) (AllReadyH.cons (o := { dst := some 49, op := Op.call { callee := Callee.value (Operand.func 35), args := #[Operand.tmp 48], argTypes := #[126] }, type := 41, pos := "l07_sign.go:93", after := #[{ on := 6, ground := Ground.data }], guard := none }) rfl (fun K hK => ?_) AllReadyH.nil)
   go_simp
   refine (HM.out _ _ fr Ab.lt (Ab.cell 0) (Ab.cell 1) (Ab.cell 2)).mono ?_
   rintro e y4 ⟨aK, cK, rfl, oK, hb4⟩
   replace fr := fr.trans (hb4.mono fr.size)
   replace hA := hA.below hb4
   replace AA := AA.kept hb4
   replace hS := hS.below hb4
   replace AS := AS.kept hb4
   replace Ab := Ab.kept hb4
   clear hb4
   have hkm := is_of_own oK NK.out
   clear oK
   go_wp2_with fail
   refine hK.out _ _ ⟨arr_range AS, arr_range AA⟩ (fun hHeld => ?_)
   clear hK K
   refine wpAnyH_ready (rs := [8]) (by kernel_rfl) (by simp) (AllReadyH.cons (o := { dst := some 50, op := Op.call { callee := Callee.value (Operand.func 89), args := #[Operand.tmp 43, Operand.tmp 44, Operand.tmp 49], argTypes := #[41, 33, 41] }, type := 22, pos := "l07_sign.go:93", after := #[{ on := 1, ground := Ground.data }, { on := 2, ground := Ground.data }, { on := 7, ground := Ground.data }, { on := 7, ground := Ground.chain }], guard := none }) rfl (fun K hK => ?_) AllReadyH.nil)
   go_simp
   refine (HW.out _ _ _ _ _ _ _ _ _ fr hS hA hkm).mono ?_
   rintro e y5 ⟨gE, oE, cE, rfl, hE, hb5⟩
   replace fr := fr.trans (hb5.mono fr.size)
   replace hA := hA.below hb5
   replace AA := AA.kept hb5
   replace hS := hS.below hb5
   replace AS := AS.kept hb5
   replace Ab := Ab.kept hb5
   replace hkm := hkm.below hb5
   clear hb5
   go_wp2_with fail
   refine hK.out _ _ ⟨arr_range AS, arr_range AA⟩ (fun hHeld => ?_)
   clear hK K
   refine wpAnyH_ready (rs := [9]) (by kernel_rfl) (by simp) (AllReadyH.cons (o := { dst := some 51, op := Op.call { callee := Callee.value (Operand.func 88), args := #[Operand.tmp 42, Operand.tmp 50], argTypes := #[22, 22] }, type := 4, pos := "l07_sign.go:93", after := #[{ on := 0, ground := Ground.data }, { on := 8, ground := Ground.data }, { on := 8, ground := Ground.chain }], guard := none }) rfl (fun K hK => ?_) AllReadyH.nil)
   go_simp
   refine (HEq.out _ _ _ _ fr hE).mono ?_
   rintro e y6 ⟨rfl, hb6⟩
   replace fr := fr.trans (hb6.mono fr.size)
   replace hA := hA.below hb6
   replace AA := AA.kept hb6
   replace hS := hS.below hb6
   replace AS := AS.kept hb6
   replace Ab := Ab.kept hb6
   replace hkm := hkm.below hb6
   replace hE := hE.below hb6
   clear hb6
   go_wp2_with fail
   refine hK.out _ _ ⟨arr_range AS, arr_range AA⟩ (fun hHeld => ?_)
   clear hK K
   refine wpAnyH_ready (rs := [10]) (by kernel_rfl) (by simp) (AllReadyH.cons (o := { dst := some 52, op := Op.unOp UnOp.not 4 (Operand.tmp 51), type := 4, pos := "l07_sign.go:93", after := #[{ on := 9, ground := Ground.data }], guard := none }) rfl (fun K hK => ?_) AllReadyH.nil)
   go_simp
   refine hK.out _ _ ⟨arr_range AS, arr_range AA⟩ (fun hHeld => ?_)
   clear hK K
   refine wpAnyH_done (by kernel_rfl) ?_ _
   cases z with
   | false =>
    go_wp2
    go_ret
    exact ⟨.inr ⟨HV.out, _, rfl⟩, fr⟩
   | true =>
    go_wp2
    go_ret
    exact ⟨.inl ⟨HV.out, rfl⟩, fr⟩

end Go.Proofs.YtihoaakbkffejaaGreatDoor

/-
  What is proved here: what Verify asks; plain mathematics of signatures: what is signed with a seed is found to be; contracts of the cursor of a draw (l1New, l1Byte): a new cursor over the; contracts of what is drawn with a cursor (l1PickInt): a number of the list; contracts of what is drawn for signatures (l7msg, l7seed, DrawClamp.
-/
import Derived.Test.YtihoaakbkffejaaGreatDoorFVr
import Derived.Test.YtihoaakbkffejaaGreatDoorFVn
import Derived.Test.YtihoaakbkffejaaGreatDoorFVk
import Derived.Test.YtihoaakbkffejaaGreatDoorFOhr
import Derived.Test.YtihoaakbkffejaaGreatDoorFJrd
import Derived.Test.YtihoaakbkffejaaGreatDoorFFm
import Derived.Deep.QuietTactic
import Derived.BigQuiet
import Derived.Laws.BitsLemmas
import Derived.Test.YtihoaakbkffejaaGreatDoorFUff
import Derived.Test.YtihoaakbkffejaaGreatDoorFQk
namespace Go.Proofs.YtihoaakbkffejaaGreatDoor
open Go.RowKit
set_option maxRecDepth 100000

structure VarsV (w : World) (b : Addr) : Prop where
 g : VarsOk w
 Q : Vr w 9 (I64 QL)
 e0 : 2 < w.heap.size
 E : w.cell? ⟨2, 0, none⟩ = some (.iface 202 (.pointer (some b)))
theorem VarsV.kept {w W : World} {b : Addr} (h : VarsV w b) (k : Below w.heap.size w W) : VarsV W b := ⟨h.g.kept k, h.Q.kept k, Nat.lt_of_lt_of_le h.e0 k.size, (k.cell (p := ⟨2, 0, none⟩) h.e0).trans h.E⟩
def vfA (pub : List Int) : KF × KF := pt (rdX6 pub) (rdY6 pub)
def vfE (pub msg sig : List Int) : List Int := enc (@pAdd pN nzP dK ivK (@pMul pN nzP dK ivK (val (rdL (sig.drop 32))).toNat baseK) (@pNeg pN nzP (@pMul pN nzP dK ivK (val (mS (sig.take 32 ++ pub ++ msg))).toNat (vfA pub))))
def vfy (pub msg sig : List Int) : Bool := decide (msg.length ≤ 2000) && (decide (sig.length = 64) && (rdOk6 pub && (decide (val (rdL (sig.drop 32)) < qO) && decide (sig.take 32 = vfE pub msg sig))))
section
variable [NeZero pN]
theorem oRead (a : Option Addr) (n c : Nat) (bs : List Int) (w : World) (hx : Bs w a n c bs) (hG : VarsOk w) (hQ : Vr w 9 (I64 QL)) (hr : rdOk6 bs = true) :
  Calls Tryz.prog 15 #[.slice a n c] w fun e w' => ∃ a1 c1 b1 d1, e = .returned (.tuple #[.agg #[.slice a1 16 c1, .slice b1 16 d1], .bool true]) ∧ PI w' a1 c1 b1 d1 (vfA bs) ∧ Below w.heap.size w w' := by
 refine (implPtRead a n c bs w hx hG.P hG.D hQ).mono ?_
 rintro e w1 ⟨v, rfl, hv, hb⟩
 obtain ⟨p1, _⟩ := pt_rd hx.2.2.2.1 hr
 rw [hr]
 obtain ⟨a1, c1, b1, d1, rfl, hp⟩ := PO.of (P := vfA bs) hv (pt_cx p1).1.symm (pt_cx p1).2.symm
 exact ⟨a1, c1, b1, d1, rfl, hp.pi, hb⟩
theorem vfA_on {bs : List Int} (hb : ∀ x ∈ bs, 0 ≤ x ∧ x < 256) (hr : rdOk6 bs = true) : On dK (vfA bs) := pt_on (pt_rd hb hr).1
end
theorem oReadNo (a : Option Addr) (n c : Nat) (bs : List Int) (w : World) (hx : Bs w a n c bs) (hG : VarsOk w) (hQ : Vr w 9 (I64 QL)) (hr : rdOk6 bs = false) :
  Calls Tryz.prog 15 #[.slice a n c] w fun e w' => ∃ a1 n1 c1 b1 m1 d1, e = .returned (.tuple #[.agg #[.slice a1 n1 c1, .slice b1 m1 d1], .bool false]) ∧ Below w.heap.size w w' := by
 refine (implPtRead a n c bs w hx hG.P hG.D hQ).mono ?_
 rintro e w1 ⟨v, rfl, ⟨a1, c1, b1, d1, rfl, _⟩, hb⟩
 rw [hr]
 exact ⟨a1, _, c1, b1, _, d1, rfl, hb⟩
theorem oScRead (a : Option Addr) (n c : Nat) (bs : List Int) (w : World) (hx : Bs w a n c bs) (hG : VarsOk w) (hr : rdOkO bs = true) :
  Calls Tryz.prog 16 #[.slice a n c] w fun e w' => ∃ a1 c1, e = .returned (.tuple #[.agg #[.slice a1 16 c1], .bool true]) ∧ Is w' a1 16 c1 (rdL bs) ∧ Below w.heap.size w w' := by
 refine (implScRead a n c bs w hx hG.O).mono ?_
 rintro e w1 ⟨v, rfl, ⟨a1, c1, rfl, oo⟩, hb⟩
 have e2 : rdFO bs = rdL bs := by unfold rdFO; rw [if_pos hr]
 rw [e2, rdL_len] at oo ⊢
 rw [hr]
 exact ⟨a1, c1, rfl, is_of_own oo (fun x h => by have := rdL_lm hx.2.2.2.1 x h; omega), hb⟩
theorem oScReadNo (a : Option Addr) (n c : Nat) (bs : List Int) (w : World) (hx : Bs w a n c bs) (hG : VarsOk w) (hr : rdOkO bs = false) :
  Calls Tryz.prog 16 #[.slice a n c] w fun e w' => ∃ a1 n1 c1, e = .returned (.tuple #[.agg #[.slice a1 n1 c1], .bool false]) ∧ Below w.heap.size w w' := by
 refine (implScRead a n c bs w hx hG.O).mono ?_
 rintro e w1 ⟨v, rfl, ⟨a1, c1, rfl, _⟩, hb⟩
 rw [hr]
 exact ⟨a1, _, c1, rfl, hb⟩

set_option maxHeartbeats 8000000 in
theorem implFault (a : Option Addr) (n c : Nat) (ps : List Int) (b : Option Addr) (m d : Nat) (ms : List Int) (a' : Option Addr) (k c' : Nat) (ss : List Int) (w : World) (hp : Bs w a n c ps) (hm : Bs w b m d ms) (hs : Bs w a' k c' ss) (be : Addr) (hG : VarsV w be) :
  Calls Tryz.prog 46 #[.slice a n c, .slice b m d, .slice a' k c'] w fun e w' => (vfy ps ms ss = true ∧ e = .returned .nilIface ∨ vfy ps ms ss = false ∧ ∃ s, e = .returned (.iface 139 (.agg #[s]))) ∧ Below w.heap.size w w' := by
 haveI := nzP
 have lp : ps.length = n := hp.2.1
 have lm : ms.length = m := hm.2.1
 have lsg : ss.length = k := hs.2.1
 by_cases h1 : m ≤ 2000
 case neg =>
  have hv : Hid (vfy ps ms ss = false) := by unfold Hid vfy; rw [show decide (ms.length ≤ 2000) = false from decide_eq_false (by omega)]; rfl
  have hgt : (2000 : Int) < (m : Int) := by omega
  go_enter Tryz.func46, Tryz.ntmps46
  go_wp2
  go_ret
  exact ⟨.inr ⟨hv.out, _, rfl⟩, Below.refl _ _⟩
 have hle : ¬ ((2000 : Int) < (m : Int)) := by omega
 have d1 : decide (ms.length ≤ 2000) = true := decide_eq_true (by omega)
 by_cases h2 : k = 64
 case neg =>
  have hv : Hid (vfy ps ms ss = false) := by unfold Hid vfy; rw [show decide (ss.length = 64) = false from decide_eq_false (by omega), Bool.false_and, Bool.and_false]
  have hne : ((k : Int) != 64) = true := by simp; omega
  go_enter Tryz.func46, Tryz.ntmps46
  go_wp2
  go_ret
  exact ⟨.inr ⟨hv.out, _, rfl⟩, Below.refl _ _⟩
 subst h2
 have d2 : decide (ss.length = 64) = true := decide_eq_true lsg
 obtain ⟨gs, os, rfl⟩ : ∃ g o, a' = some ⟨g, o, none⟩ := by
  rcases hs.2.2.2.2 with h | ⟨b, o, h, _⟩
  ·omega
  ·exact ⟨b, o, h⟩
 have hcc : (32 : Int) ≤ (c' : Int) := by have := hs.2.2.1; omega
 have hcne : ¬ c' = 32 := by have := hs.2.2.1; omega
 cases h3 : rdOk6 ps with
 | false =>
  have hv : Hid (vfy ps ms ss = false) := by unfold Hid vfy; rw [h3, Bool.false_and, Bool.and_false, Bool.and_false]
  have HP : Hid (∃ _ : True, Calls Tryz.prog 15 #[.slice a n c] w fun e w' => ∃ a1 n1 c1 b1 m1 d1, e = .returned (.tuple #[.agg #[.slice a1 n1 c1, .slice b1 m1 d1], .bool false]) ∧ Below w.heap.size w w') := ⟨trivial, oReadNo a n c ps w hp hG.g hG.Q h3⟩
  go_enter Tryz.func46, Tryz.ntmps46
  go_wp2_with fail
  obtain ⟨_, HP⟩ := HP.out
  refine HP.mono ?_
  rintro e y1 ⟨a1, n1, c1, b1, m1, d1, rfl, hb1⟩
  go_wp2
  go_ret
  exact ⟨.inr ⟨hv.out, _, rfl⟩, hb1.trans ((Below.refl _ _).alloc hb1.size _)⟩
 | true =>
  have HP : Hid (∀ Z, Below w.heap.size w Z → Calls Tryz.prog 15 #[.slice a n c] Z fun e w' => ∃ a1 c1 b1 d1, e = .returned (.tuple #[.agg #[.slice a1 16 c1, .slice b1 16 d1], .bool true]) ∧ PI w' a1 c1 b1 d1 (vfA ps) ∧ Below Z.heap.size Z w') := by unfold Hid; intro Z hZ; exact oRead a n c ps Z (hp.below hZ) (hG.kept hZ).g (hG.kept hZ).Q h3
  have hAon := vfA_on hp.2.2.2.1 h3
  have l32 : ps.length = 32 := (rdOk6_parts h3).1
  have hd := hs.dropW (m := 32) (by omega)
  have ht := hs.takeW (m := 32) (by omega)
  have ld : (ss.drop 32).length = 32 := by simp [lsg]
  cases h4 : rdOkO (ss.drop 32) with
  | false =>
   have h4q : decide (val (rdL (ss.drop 32)) < qO) = false := by unfold rdOkO at h4; rw [ld] at h4; simpa using h4
   have hv : Hid (vfy ps ms ss = false) := by unfold Hid vfy; rw [h4q, Bool.false_and, Bool.and_false, Bool.and_false, Bool.and_false]
   have HR : Hid (∀ Z, Below w.heap.size w Z → Calls Tryz.prog 16 #[.slice (some ⟨gs, os + 32, none⟩) (64 - 32) (c' - 32)] Z fun e w' => ∃ a1 n1 c1, e = .returned (.tuple #[.agg #[.slice a1 n1 c1], .bool false]) ∧ Below Z.heap.size Z w') := by unfold Hid; intro Z hZ; exact oScReadNo _ _ _ _ Z (hd.below hZ) (hG.kept hZ).g h4
   clear hd ht
   go_enter Tryz.func46, Tryz.ntmps46
   go_wp2_with fail
   refine (HP.out _ (Below.refl _ _)).mono ?_
   rintro e y1 ⟨a1, c1, b1, d1, rfl, hA, fr⟩
   go_upto_region 6 with fail
   obtain ⟨Z1, hV⟩ : ∃ Z, Z = y1.alloc (.cells #[.slice a1 16 c1, .slice b1 16 d1] 33) := ⟨_, rfl⟩
   have bV : Below y1.heap.size y1 Z1 := by rw [hV]; exact (Below.refl _ _).alloc (Nat.le_refl _) _
   have AA : Arr Z1 y1.heap.size 33 [.slice a1 16 c1, .slice b1 16 d1] := by rw [hV]; exact Arr.new _ _ _
   rw [← hV]
   replace fr := fr.trans (bV.mono fr.size)
   replace hA := hA.below bV
   clear hV bV
   obtain ⟨XA, hX⟩ : ∃ X, X = y1.heap.size := ⟨_, rfl⟩
   rw [← hX] at AA ⊢
   clear hX
   go_wp2_with fail
   refine (HR.out _ fr).mono ?_
   rintro e y2 ⟨a2, n2, c2, rfl, hb2⟩
   go_wp2
   go_ret
   exact ⟨.inr ⟨hv.out, _, rfl⟩, (fr.trans (hb2.mono fr.size)).trans ((Below.refl _ _).alloc (fr.trans (hb2.mono fr.size)).size _)⟩
  | true =>
   have h4q : decide (val (rdL (ss.drop 32)) < qO) = true := by unfold rdOkO at h4; rw [ld] at h4; simpa using h4
   have hsc : scOk (rdL (ss.drop 32)) = true := (scOk_iff _).2 ⟨rdL_len _, rdL_lm (drop_byte hs.2.2.2.1 32), of_decide_eq_true h4q⟩
   have HR : Hid (∀ Z, Below w.heap.size w Z → Calls Tryz.prog 16 #[.slice (some ⟨gs, os + 32, none⟩) (64 - 32) (c' - 32)] Z fun e w' => ∃ a1 c1, e = .returned (.tuple #[.agg #[.slice a1 16 c1], .bool true]) ∧ Is w' a1 16 c1 (rdL (ss.drop 32)) ∧ Below Z.heap.size Z w') := by unfold Hid; intro Z hZ; exact oScRead _ _ _ _ Z (hd.below hZ) (hG.kept hZ).g h4
   obtain ⟨KM, eK⟩ : ∃ K, K = mS (ss.take 32 ++ ps ++ ms) := ⟨_, rfl⟩
   have kok : scOk KM = true := by rw [eK]; exact mS_ok _
   have NK : Hid _ := sc_int kok
   have HM : Hid (∀ g Z, Below w.heap.size w Z → g < Z.heap.size → Z.cell? ⟨g, 0, none⟩ = some (.slice (some ⟨gs, os, none⟩) 32 c') → Z.cell? ⟨g, 1, none⟩ = some (.slice a n c) → Z.cell? ⟨g, 2, none⟩ = some (.slice b m d) → Calls Tryz.prog 35 #[.slice (some ⟨g, 0, none⟩) 3 3] Z fun e w' => ∃ a' c', e = .returned (.agg #[.slice a' 16 c']) ∧ w'.ownsRow Z.heap.size 65 1 (.slice a' 16 c') 16 (I64 KM) ∧ Below Z.heap.size Z w') := by unfold Hid; intro g Z hZ hg q0 q1 q2; rw [eK]; exact implMSum3 g _ 32 c' _ a n c _ b m d ms Z hg q0 q1 q2 (ht.below hZ) (hp.below hZ) (hm.below hZ) (by omega) (hG.kept hZ).g
   obtain ⟨E, eE⟩ : ∃ E, E = vfE ps ms ss := ⟨_, rfl⟩
   have HW : Hid (∀ az cz ax cx ay cy ak ck Z, Below w.heap.size w Z → Is Z az 16 cz (rdL (ss.drop 32)) → PI Z ax cx ay cy (vfA ps) → Is Z ak 16 ck KM → Calls Tryz.prog 89 #[.agg #[.slice az 16 cz], .agg #[.slice ax 16 cx, .slice ay 16 cy], .agg #[.slice ak 16 ck]] Z fun e w' => ∃ g' o' c', e = .returned (.slice (some ⟨g', o', none⟩) 32 c') ∧ Bs w' (some ⟨g', o', none⟩) 32 c' E ∧ Below Z.heap.size Z w') := by
    unfold Hid; intro az cz ax cx' ay cy ak ck Z hZ h1 h2 h3; refine (implWithout az cz _ ax cx' ay cy (vfA ps) ak ck KM Z h1 h2 h3 hAon hsc kok (hG.kept hZ).g).mono ?_
    rintro e w' ⟨v, rfl, ho, hb⟩; obtain ⟨a9, c9, rfl, _, hB⟩ := Bs.own ho (enc_byte _)
    obtain ⟨g9, o9, rfl⟩ : ∃ g o, a9 = some ⟨g, o, none⟩ := by
     rcases hB.2.2.2.2 with h | ⟨b, o, h, _⟩
     ·omega
     ·exact ⟨b, o, h⟩
    rw [eE, vfE, ← eK]; exact ⟨g9, o9, c9, rfl, hB, hb⟩
   have HEq : Hid (∀ g' o' c9 Z, Below w.heap.size w Z → Bs Z (some ⟨g', o', none⟩) 32 c9 E → Calls Tryz.prog 88 #[.slice (some ⟨gs, os, none⟩) 32 c', .slice (some ⟨g', o', none⟩) 32 c9] Z fun e w' => e = .returned (.bool (decide (ss.take 32 = E))) ∧ Below Z.heap.size Z w') := by
    unfold Hid; intro g' o' c9 Z hZ h; refine (equalB _ _ _ _ _ _ _ _ _ _ Z (ht.below hZ) h).mono ?_; rintro e w' ⟨rfl, rfl⟩; exact ⟨rfl, Below.refl _ _⟩
   have hvf : vfy ps ms ss = decide (ss.take 32 = E) := by unfold vfy; rw [d1, d2, h3, h4q, eE]; rfl
   obtain ⟨z, ez⟩ : ∃ z, z = decide (ss.take 32 = E) := ⟨_, rfl⟩
   rw [← ez] at HEq hvf
   have HV : Hid _ := hvf
   have huS : Tryz.prog.underlying 41 = some _ := Tryz.underlying41
   have huP : Tryz.prog.underlying 33 = some _ := Tryz.underlying33
   clear ez hvf eK eE hd ht hG hp hm hs hsc kok
   go_enter Tryz.func46, Tryz.ntmps46
   go_wp2_with fail
   refine (HP.out _ (Below.refl _ _)).mono ?_
   rintro e y1 ⟨a1, c1, b1, d1, rfl, hA, fr⟩
   go_upto_region 6 with fail
   obtain ⟨Z1, hV⟩ : ∃ Z, Z = y1.alloc (.cells #[.slice a1 16 c1, .slice b1 16 d1] 33) := ⟨_, rfl⟩
   have bV : Below y1.heap.size y1 Z1 := by rw [hV]; exact (Below.refl _ _).alloc (Nat.le_refl _) _
   have AA : Arr Z1 y1.heap.size 33 [.slice a1 16 c1, .slice b1 16 d1] := by rw [hV]; exact Arr.new _ _ _
   rw [← hV]
   replace fr := fr.trans (bV.mono fr.size)
   replace hA := hA.below bV
   clear hV bV
   obtain ⟨XA, hX⟩ : ∃ X, X = y1.heap.size := ⟨_, rfl⟩
   rw [← hX] at AA ⊢
   clear hX
   go_wp2_with fail
   refine (HR.out _ fr).mono ?_
   rintro e y1 ⟨a2, c2, rfl, hS, hb1⟩
   replace fr := fr.trans (hb1.mono fr.size)
   replace hA := hA.below hb1
   replace AA := AA.kept hb1
   clear hb1
   go_upto_region 12 with fail
   obtain ⟨Z2, hV⟩ : ∃ Z, Z = y1.alloc (.cells #[.slice a2 16 c2] 41) := ⟨_, rfl⟩
   have bV : Below y1.heap.size y1 Z2 := by rw [hV]; exact (Below.refl _ _).alloc (Nat.le_refl _) _
   have AS : Arr Z2 y1.heap.size 41 [.slice a2 16 c2] := by rw [hV]; exact Arr.new _ _ _
   rw [← hV]
   replace fr := fr.trans (bV.mono fr.size)
   replace hA := hA.below bV
   replace AA := AA.kept bV
   replace hS := hS.below bV
   clear hV bV
   obtain ⟨XS, hX⟩ : ∃ X, X = y1.heap.size := ⟨_, rfl⟩
   rw [← hX] at AS ⊢
   clear hX
   try simp only [Act.put]
   have bD : Below Z2.heap.size Z2 Z2.drew := (Below.refl _ _).drew
   replace fr := fr.trans (bD.mono fr.size)
   replace hA := hA.below bD
   replace AA := AA.kept bD
   replace hS := hS.below bD
   replace AS := AS.kept bD
   clear bD
   refine wp_region_held_drew (S := fun W => W.rangeAt XS 0 [.slice a2 16 c2] ∧ W.rangeAt XA 0 [.slice a1 16 c1, .slice b1 16 d1]) (by kernel_rfl) ⟨arr_range AS, arr_range AA⟩ (fun hHeld => ?_)
   obtain ⟨D2, hD⟩ : ∃ V, V = Z2.drew := ⟨_, rfl⟩
   rw [← hD] at hHeld fr hA AA hS AS ⊢
   clear hD
   refine wpAnyH_take (i := 0) (oi := { dst := some 42, op := Op.move (Operand.tmp 9), type := 22, pos := "l07_sign.go:93", after := #[], guard := none }) (v := .slice (some ⟨gs, os, none⟩) 32 c') rfl (by kernel_rfl) (by kernel_rfl) (by kernel_rfl) (fun _ _ _ h => h) (.inl ⟨by rfl, fun _ _ => by rfl⟩) (by assumption) ?_
   simp only [aP]
   refine wpAnyH_take (i := 1) (oi := { dst := some 43, op := Op.load 41 (Operand.tmp 10), type := 41, pos := "l07_sign.go:93", after := #[], guard := none }) (v := _) rfl (by kernel_rfl) (by kernel_rfl) (by kernel_rfl) (fun _ _ _ h => h) (yieldsIf_load_mid (by rfl) _ _ rfl _ _ rfl ([.slice a2 16 c2]) _ (fun _ h => h.1) huS rfl infoSc) (by assumption) ?_
   simp only [aP]
   refine wpAnyH_take (i := 2) (oi := { dst := some 44, op := Op.load 33 (Operand.tmp 7), type := 33, pos := "l07_sign.go:93", after := #[], guard := none }) (v := _) rfl (by kernel_rfl) (by kernel_rfl) (by kernel_rfl) (fun _ _ _ h => h) (yieldsIf_load_mid (by rfl) _ _ rfl _ _ rfl ([.slice a1 16 c1, .slice b1 16 d1]) _ (fun _ h => h.2) huP rfl infoPt) (by assumption) ?_
   simp only [aP]
   refine wpAnyH_take (i := 3) (oi := { dst := some 45, op := Op.move (Operand.tmp 9), type := 22, pos := "l07_sign.go:93", after := #[], guard := none }) (v := .slice (some ⟨gs, os, none⟩) 32 c') rfl (by kernel_rfl) (by kernel_rfl) (by kernel_rfl) (fun _ _ _ h => h) (.inl ⟨by rfl, fun _ _ => by rfl⟩) (by assumption) ?_
   simp only [aP]
   refine wpAnyH_take (i := 4) (oi := { dst := some 46, op := Op.move (Operand.tmp 0), type := 22, pos := "l07_sign.go:93", after := #[], guard := none }) (v := .slice a n c) rfl (by kernel_rfl) (by kernel_rfl) (by kernel_rfl) (fun _ _ _ h => h) (.inl ⟨by rfl, fun _ _ => by rfl⟩) (by assumption) ?_
   simp only [aP]
   refine wpAnyH_take (i := 5) (oi := { dst := some 47, op := Op.move (Operand.tmp 1), type := 22, pos := "l07_sign.go:93", after := #[], guard := none }) (v := .slice b m d) rfl (by kernel_rfl) (by kernel_rfl) (by kernel_rfl) (fun _ _ _ h => h) (.inl ⟨by rfl, fun _ _ => by rfl⟩) (by assumption) ?_
   simp only [aP]
   refine wpAnyH_ready (rs := [6]) (by kernel_rfl) (by simp) (AllReadyH.cons (o := { dst := some 48, op := Op.buildSlice 126 3 #[(0, Operand.tmp 45), (1, Operand.tmp 46), (2, Operand.tmp 47)], type := 126, pos := "l07_sign.go:93", after := #[{ on := 3, ground := Ground.data }, { on := 4, ground := Ground.data }, { on := 5, ground := Ground.data }], guard := none }) rfl (fun K hK => ?_) AllReadyH.nil)
   go_simp
   obtain ⟨V3, hVe⟩ : ∃ V, V = D2.alloc (.cells #[.slice (some ⟨gs, os, none⟩) 32 c', .slice a n c, .slice b m d] 22) := ⟨_, rfl⟩
   have bV : Below D2.heap.size D2 V3 := by rw [hVe]; exact (Below.refl _ _).alloc (Nat.le_refl _) _
   have Ab : Arr V3 D2.heap.size 22 ([.slice (some ⟨gs, os, none⟩) 32 c', .slice a n c, .slice b m d]) := by rw [hVe]; exact Arr.new _ ([.slice (some ⟨gs, os, none⟩) 32 c', .slice a n c, .slice b m d]) _
   have hXb : XA < D2.heap.size ∧ XS < D2.heap.size ∧ True := ⟨AA.lt, AS.lt, trivial⟩
   obtain ⟨Xb, hXe⟩ : ∃ X, X = D2.heap.size := ⟨_, rfl⟩
   have sXb : D2.heap.size ≤ Xb := Nat.le_of_eq hXe.symm
   have uXbfr := fr.size
   replace fr := fr.trans (bV.mono fr.size)
   replace hA := hA.below bV
   replace AA := AA.kept bV
   replace hS := hS.below bV
   replace AS := AS.kept bV
   rw [← hVe]
   rw [← hXe] at Ab hXb ⊢
   clear hVe hXe bV
   refine hK.out _ _ ⟨arr_range AS, arr_range AA⟩ (fun hHeld => ?_)
   clear hK K
   refine wpAnyH_ready (rs := [7]) (by kernel_rfl) (by simp) (AllReadyH.cons (o := { dst := some 49, op := Op.call { callee := Callee.value (Operand.func 35), args := #[Operand.tmp 48], argTypes := #[126] }, type := 41, pos := "l07_sign.go:93", after := #[{ on := 6, ground := Ground.data }], guard := none }) rfl (fun K hK => ?_) AllReadyH.nil)
   go_simp
   refine (HM.out _ _ fr Ab.lt (Ab.cell 0) (Ab.cell 1) (Ab.cell 2)).mono ?_
   rintro e y4 ⟨aK, cK, rfl, oK, hb4⟩
   replace fr := fr.trans (hb4.mono fr.size)
   replace hA := hA.below hb4
   replace AA := AA.kept hb4
   replace hS := hS.below hb4
   replace AS := AS.kept hb4
   replace Ab := Ab.kept hb4
   clear hb4
   have hkm := is_of_own oK NK.out
   clear oK
   go_wp2_with fail
   refine hK.out _ _ ⟨arr_range AS, arr_range AA⟩ (fun hHeld => ?_)
   clear hK K
   refine wpAnyH_ready (rs := [8]) (by kernel_rfl) (by simp) (AllReadyH.cons (o := { dst := some 50, op := Op.call { callee := Callee.value (Operand.func 89), args := #[Operand.tmp 43, Operand.tmp 44, Operand.tmp 49], argTypes := #[41, 33, 41] }, type := 22, pos := "l07_sign.go:93", after := #[{ on := 1, ground := Ground.data }, { on := 2, ground := Ground.data }, { on := 7, ground := Ground.data }, { on := 7, ground := Ground.chain }], guard := none }) rfl (fun K hK => ?_) AllReadyH.nil)
   go_simp
   refine (HW.out _ _ _ _ _ _ _ _ _ fr hS hA hkm).mono ?_
   rintro e y5 ⟨gE, oE, cE, rfl, hE, hb5⟩
   replace fr := fr.trans (hb5.mono fr.size)
   replace hA := hA.below hb5
   replace AA := AA.kept hb5
   replace hS := hS.below hb5
   replace AS := AS.kept hb5
   replace Ab := Ab.kept hb5
   replace hkm := hkm.below hb5
   clear hb5
   go_wp2_with fail
   refine hK.out _ _ ⟨arr_range AS, arr_range AA⟩ (fun hHeld => ?_)
   clear hK K
   refine wpAnyH_ready (rs := [9]) (by kernel_rfl) (by simp) (AllReadyH.cons (o := { dst := some 51, op := Op.call { callee := Callee.value (Operand.func 88), args := #[Operand.tmp 42, Operand.tmp 50], argTypes := #[22, 22] }, type := 4, pos := "l07_sign.go:93", after := #[{ on := 0, ground := Ground.data }, { on := 8, ground := Ground.data }, { on := 8, ground := Ground.chain }], guard := none }) rfl (fun K hK => ?_) AllReadyH.nil)
   go_simp
   refine (HEq.out _ _ _ _ fr hE).mono ?_
   rintro e y6 ⟨rfl, hb6⟩
   replace fr := fr.trans (hb6.mono fr.size)
   replace hA := hA.below hb6
   replace AA := AA.kept hb6
   replace hS := hS.below hb6
   replace AS := AS.kept hb6
   replace Ab := Ab.kept hb6
   replace hkm := hkm.below hb6
   replace hE := hE.below hb6
   clear hb6
   go_wp2_with fail
   refine hK.out _ _ ⟨arr_range AS, arr_range AA⟩ (fun hHeld => ?_)
   clear hK K
   refine wpAnyH_ready (rs := [10]) (by kernel_rfl) (by simp) (AllReadyH.cons (o := { dst := some 52, op := Op.unOp UnOp.not 4 (Operand.tmp 51), type := 4, pos := "l07_sign.go:93", after := #[{ on := 9, ground := Ground.data }], guard := none }) rfl (fun K hK => ?_) AllReadyH.nil)
   go_simp
   refine hK.out _ _ ⟨arr_range AS, arr_range AA⟩ (fun hHeld => ?_)
   clear hK K
   refine wpAnyH_done (by kernel_rfl) ?_ _
   cases z with
   | false =>
    go_wp2
    go_ret
    exact ⟨.inr ⟨HV.out, _, rfl⟩, fr⟩
   | true =>
    go_wp2
    go_ret
    exact ⟨.inl ⟨HV.out, rfl⟩, fr⟩
section
variable [NeZero pN]
theorem rd_enc {p : KF × KF} (h : On dK p) : rdOk6 (enc p) = true ∧ vfA (enc p) = p := by
 obtain ⟨a, b, c⟩ := rd_pt (pt_ok h)
 refine ⟨a, ?_⟩
 unfold vfA
 show pt (rdX6 (ptBt (cx p.1) (cx p.2))) (rdY6 (ptBt (cx p.1) (cx p.2))) = p
 rw [b, c, pt_back]
theorem sub_back {R Q : KF × KF} (hR : On dK R) (hQ : On dK Q) : pAdd dK ivK (pAdd dK ivK R (pNeg Q)) Q = R := by
 rw [crvK.assoc hR (on_neg hQ) hQ, pAdd_comm (pNeg Q) Q, crvK.add_neg hQ, crvK.add_zero]
end
theorem vfy_says {pub msg sig : List Int} (h : vfy pub msg sig = true) (hp : ∀ x ∈ pub, 0 ≤ x ∧ x < 256) :
  msg.length ≤ 2000 ∧ sig.length = 64 ∧ rdOk6 pub = true ∧ rdOk6 (sig.take 32) = true ∧ rdOkO (sig.drop 32) = true ∧
  @pAdd pN nzP dK ivK (vfA (sig.take 32)) (@pMul pN nzP dK ivK (val (mS (sig.take 32 ++ pub ++ msg))).toNat (vfA pub)) = @pMul pN nzP dK ivK (val (rdL (sig.drop 32))).toNat baseK := by
 haveI := nzP
 unfold vfy at h
 simp only [Bool.and_eq_true, decide_eq_true_eq] at h
 obtain ⟨h1, h2, h3, h4, h5⟩ := h
 have hA : On dK (vfA pub) := vfA_on hp h3
 have o1 := crvK.on_mul on_base (val (rdL (sig.drop 32))).toNat
 have o2 := crvK.on_mul hA (val (mS (sig.take 32 ++ pub ++ msg))).toNat
 obtain ⟨r1, r2⟩ := rd_enc (crvK.on_add o1 (on_neg o2))
 have e : sig.take 32 = enc (pAdd dK ivK (pMul dK ivK (val (rdL (sig.drop 32))).toNat baseK) (pNeg (pMul dK ivK (val (mS (sig.take 32 ++ pub ++ msg))).toNat (vfA pub)))) := h5
 refine ⟨h1, h2, h3, ?_, ?_, ?_⟩
 ·rw [e]; exact r1
 ·unfold rdOkO; simp [h2, h4]
 ·have e2 : vfA (sig.take 32) = pAdd dK ivK (pMul dK ivK (val (rdL (sig.drop 32))).toNat baseK) (pNeg (pMul dK ivK (val (mS (sig.take 32 ++ pub ++ msg))).toNat (vfA pub))) := by
   rw [← r2]; exact congrArg vfA e
  rw [e2]
  exact sub_back o1 o2
end Go.Proofs.YtihoaakbkffejaaGreatDoor
namespace Go.Proofs.YtihoaakbkffejaaGreatDoor
open Go.RowKit

def Cur (W : World) (p : Nat) (a : Option Addr) (n c : Nat) : Prop :=
 ∃ (i : Nat) (h : Int), i ≤ n ∧ W.heap[p]? = some (.cells #[.slice a n c, .int .i64 i, .int .i64 h] 124 (0, 0))

def Coded (W : World) (p : Nat) (a : Option Addr) (n c : Nat) (xs : List Int) : Prop := Bs W a n c xs ∧ n ≤ 9223372036854775807 ∧ ∀ b o s, a = some ⟨b, o, s⟩ → n ≠ 0 → b ≠ p

theorem grown_into {W Wr W' : World} {p : Nat} {row : Option Nat} (h : W.grownBy Wr (some p)) (hg : Wr.grownBy W' row) (hr : ∀ k, row = some k → W.heap.size ≤ k ∨ k = p) : W.grownBy W' (some p) :=
 ⟨hg.os.trans h.os, hg.tape.trans h.tape, hg.output.trans h.output, Nat.le_trans h.size hg.size, fun i hi hne => by
  rw [hg.block i (Nat.lt_of_lt_of_le hi h.size) (fun e => ?_)]
  ·exact h.block i hi hne
  ·rcases hr i e.symm with h1 | h1
   ·omega
   ·exact hne (by rw [h1])⟩

theorem Coded.grown {W W' : World} {p : Nat} {a : Option Addr} {n c : Nat} {xs : List Int} (h : Coded W p a n c xs) (hg : W.grownBy W' (some p)) : Coded W' p a n c xs := by
 obtain ⟨⟨h0, hl, hc, hby, h⟩, hm, hne⟩ := h
 refine ⟨⟨h0, hl, hc, hby, ?_⟩, hm, hne⟩
 rcases h with h | ⟨b, o, ha, hb, hcell⟩
 ·exact .inl h
 ·by_cases hn : n = 0
  ·exact .inl hn
  ·refine .inr ⟨b, o, ha, Nat.lt_of_lt_of_le hb hg.size, fun j hj => ?_⟩
   exact hg.cell (hcell j hj) (fun e => hne b o none ha hn (by simpa using e))

theorem and255 (z : Int) : 0 ≤ bits BinOp.and IntKind.i64 z 255 ∧ bits BinOp.and IntKind.i64 z 255 ≤ 255 := by
 have h : ((BitVec.ofInt 64 z &&& BitVec.ofInt 64 255).toNat) ≤ 255 := by
  rw [BitVec.toNat_and]
  exact Nat.le_trans Nat.and_le_right (by decide)
 have e : bits BinOp.and IntKind.i64 z 255 = IntKind.i64.wrap ((BitVec.ofInt 64 z &&& BitVec.ofInt 64 255).toNat : Int) := rfl
 rw [e, IntKind.wrap_i64]
 omega

set_option maxHeartbeats 1000000 in
theorem curNew (a : Option Addr) (n c : Nat) (xs : List Int) (w : World) (h : Bs w a n c xs) (hm : n ≤ 9223372036854775807) :
  Calls Tryz.prog 28 #[.slice a n c] w fun e w' => e = .returned (.pointer (some ⟨w.heap.size, 0, none⟩)) ∧ Cur w' w.heap.size a n c ∧ Coded w' w.heap.size a n c xs ∧ w'.heap.size = w.heap.size + 1 ∧ Below w.heap.size w w' := by
 have h' := h
 obtain ⟨_, hl, hc, hby, h⟩ := h
 go_enter Tryz.func28, Tryz.ntmps28
 go_wp2
 go_loop [3, 4] (fun hh i => ∃ (k : Nat) (H : Int), k ≤ n ∧ k ≤ 4000 ∧ i = .int .i64 k ∧ hh = .int .i64 H) (fun _ i => 4000 - (intOf i).toNat)
 case atStart => exact ⟨0, _, by omega, by omega, rfl, rfl⟩
 case round =>
  obtain ⟨k, H, hk, hk2, rfl, rfl⟩ := hrel
  by_cases hlt : (k : Int) < (n : Int)
  ·by_cases hlt2 : (k : Int) < 4000
   ·rcases h with h | ⟨b, o, rfl, hbs, hcell⟩
    ·omega
    obtain ⟨x, hx⟩ : ∃ x, x = xs.getD k 0 := ⟨_, rfl⟩
    have hck : w.cell? ⟨b, o + k, none⟩ = some (.int .u8 x) := by rw [hx]; exact hcell k (by omega)
    clear hcell hx hby h'
    go_wp2
    go_round
    case rel => exact ⟨k + 1, _, by omega, by omega, by go_num, rfl⟩
    case measure => simp [intOf]; omega
   ·go_wp2
    go_ret
    refine ⟨rfl, ⟨0, H, by omega, heap_alloc_new w _⟩, ⟨h'.below ((Below.refl _ _).alloc (Nat.le_refl _) _), hm, ?_⟩, by simp, (Below.refl _ _).alloc (Nat.le_refl _) _⟩
    intro b o s ha hn0
    rcases h with h | ⟨b', o', ha', hbs, _⟩
    ·omega
    ·rw [ha'] at ha
     simp only [Option.some.injEq, Addr.mk.injEq] at ha
     omega
  ·go_wp2
   go_ret
   refine ⟨rfl, ⟨0, H, by omega, heap_alloc_new w _⟩, ⟨h'.below ((Below.refl _ _).alloc (Nat.le_refl _) _), hm, ?_⟩, by simp, (Below.refl _ _).alloc (Nat.le_refl _) _⟩
   intro b o s ha hn0
   rcases h with h | ⟨b', o', ha', hbs, _⟩
   ·omega
   ·rw [ha'] at ha
    simp only [Option.some.injEq, Addr.mk.injEq] at ha
    omega

theorem grown_drewN {w w1 : World} {r : Option Nat} (h : w.grownBy w1 r) (q : Nat) : w.grownBy (w1.drewN q) r := ⟨h.os, h.tape, h.output, h.size, h.block⟩

theorem cur_set2 {w : World} {p n c i : Nat} {a : Option Addr} {h : Int} (hp : w.heap[p]? = some (.cells #[.slice a n c, .int .i64 i, .int .i64 h] 124 (0, 0))) (H : Int) :
  (w.setCell ⟨p, 2, none⟩ (.int .i64 H)).heap[p]? = some (.cells #[.slice a n c, .int .i64 i, .int .i64 H] 124 (0, 0)) := by
 rw [heap_setCell_same w p 2 _ 124 (.int .i64 H) hp]; rfl
theorem cur_set1 {w : World} {p n c i : Nat} {a : Option Addr} {h : Int} (hp : w.heap[p]? = some (.cells #[.slice a n c, .int .i64 i, .int .i64 h] 124 (0, 0))) (I : Int) :
  (w.setCell ⟨p, 1, none⟩ (.int .i64 I)).heap[p]? = some (.cells #[.slice a n c, .int .i64 I, .int .i64 h] 124 (0, 0)) := by
 rw [heap_setCell_same w p 1 _ 124 (.int .i64 I) hp]; rfl
theorem cur_grown2 (w : World) (p : Nat) (u : Value) (j : Nat) : w.grownBy (w.setCell ⟨p, j, none⟩ u) (some p) :=
 ⟨rfl, rfl, rfl, by simp, fun k _ hk => heap_setCell_other w ⟨p, j, none⟩ k u (fun e => hk (by simp [e]))⟩

set_option maxHeartbeats 1000000 in
theorem curByte (p : Nat) (a : Option Addr) (n c : Nat) (xs : List Int) (w : World) (hcur : Cur w p a n c) (hcode : Coded w p a n c xs) :
  Calls Tryz.prog 50 #[.pointer (some ⟨p, 0, none⟩)] w fun e w' => ∃ x : Int, e = .returned (.int .i64 x) ∧ 0 ≤ x ∧ x ≤ 255 ∧ Cur w' p a n c ∧ w.grownBy w' (some p) := by
 obtain ⟨i, h, hin, hp⟩ := hcur
 obtain ⟨⟨h0, hl, hc, hby, hb⟩, hm, hne⟩ := hcode
 have c0 : w.cell? ⟨p, 0, none⟩ = some (.slice a n c) := by simp [World.cell?, hp]
 have c1 : w.cell? ⟨p, 1, none⟩ = some (.int .i64 i) := by simp [World.cell?, hp]
 have c2 : w.cell? ⟨p, 2, none⟩ = some (.int .i64 h) := by simp [World.cell?, hp]
 have f1 : w.frozen? ⟨p, 1, none⟩ = false := by simp [World.frozen?, hp]
 have f2 : w.frozen? ⟨p, 2, none⟩ = false := by simp [World.frozen?, hp]
 go_enter Tryz.func50, Tryz.ntmps50
 go_wp2
 clear c2
 generalize wrap64 (wrap64 (h * 6364136223846793005) + 1442695040888963407) = H
 have hp1 := cur_set2 hp H
 have hg1 := cur_grown2 w p (.int .i64 H) 2
 have e0 := World.cell?_setCell_other w ⟨p, 2, none⟩ ⟨p, 0, none⟩ (.int .i64 H) (by simp)
 generalize w.setCell ⟨p, 2, none⟩ (.int .i64 H) = w1 at hp1 hg1 e0 ⊢
 clear c0 c1 f1 f2 hp e0
 have c0 : w1.cell? ⟨p, 0, none⟩ = some (.slice a n c) := by simp [World.cell?, hp1]
 have c1 : w1.cell? ⟨p, 1, none⟩ = some (.int .i64 i) := by simp [World.cell?, hp1]
 have c2 : w1.cell? ⟨p, 2, none⟩ = some (.int .i64 H) := by simp [World.cell?, hp1]
 have f1 : w1.frozen? ⟨p, 1, none⟩ = false := by simp [World.frozen?, hp1]
 go_quiet (fail)
 go_wp2
 have hX := and255 (bits BinOp.xor IntKind.i64 (H / 8589934592) (H / 35184372088832))
 generalize bits BinOp.and IntKind.i64 (bits BinOp.xor IntKind.i64 (H / 8589934592) (H / 35184372088832)) 255 = X at hX ⊢
 obtain ⟨hX0, hX1⟩ := hX
 by_cases hin2 : (i : Int) < (n : Int)
 ·rcases hb with hb | ⟨b, o, rfl, hbs, hcell⟩
  ·omega
  have hbp : b ≠ p := hne b o none rfl (by omega)
  obtain ⟨y, hy⟩ : ∃ y, y = xs.getD i 0 := ⟨_, rfl⟩
  have hck : w1.cell? ⟨b, o + i, none⟩ = some (.int .u8 y) := by rw [hy]; exact hg1.cell (hcell i (by omega)) (by simpa using hbp)
  have hyb : 0 ≤ y ∧ y < 256 := by rw [hy]; exact get_byte hby (by omega)
  obtain ⟨hy0, hy1⟩ := hyb
  have hi0 : (0 : Int) ≤ (i : Int) := by omega
  clear hcell hy hby
  go_quiet (fail)
  go_wp2
  go_quiet (fail)
  go_wp2
  have hZ := and255 (X + y)
  generalize bits BinOp.and IntKind.i64 (X + y) 255 = Z at hZ ⊢
  go_ret
  refine ⟨Z, rfl, hZ.1, hZ.2, ⟨i + 1, H, by omega, ?_⟩, ?_⟩
  ·rw [show (((i + 1 : Nat) : Int)) = (i : Int) + 1 by omega]
   exact cur_set1 (w := w1.drewN _) hp1 ((i : Int) + 1)
  ·exact grown_trans (grown_drewN hg1 _) (cur_grown2 _ _ _ _)
 ·have hd : decide (i < n) = false := by simp; omega
  go_quiet (fail)
  go_wp2
  go_ret
  exact ⟨X, rfl, hX0, hX1, ⟨i, H, hin, hp1⟩, grown_drewN hg1 _⟩

set_option maxHeartbeats 1000000 in
theorem curBelow (p : Nat) (a : Option Addr) (n c : Nat) (xs : List Int) (N : Int) (w : World) (hcur : Cur w p a n c) (hcode : Coded w p a n c xs) (hN : N ≤ 9223372036854775807) :
  Calls Tryz.prog 31 #[.pointer (some ⟨p, 0, none⟩), .int .i64 N] w fun e w' => ∃ x : Int, e = .returned (.int .i64 x) ∧ 0 ≤ x ∧ (0 < N → x < N) ∧ (N ≤ 0 → x = 0) ∧ Cur w' p a n c ∧ w.grownBy w' (some p) := by
 by_cases h0 : N ≤ 0
 ·go_enter Tryz.func31, Tryz.ntmps31
  go_wp2
  go_ret
  exact ⟨0, rfl, by omega, by omega, fun _ => rfl, hcur, World.grownBy.refl _ _⟩
 by_cases h1 : N ≤ 256
 ·go_enter Tryz.func31, Tryz.ntmps31
  go_wp2_with fail
  refine (curByte p a n c xs _ hcur hcode).mono ?_
  rintro e w1 ⟨x, rfl, hx0, hx1, hc1, hg1⟩
  have hz : (N == 0) = false := by simp; omega
  go_wp2
  go_ret
  exact ⟨x % N, rfl, Int.emod_nonneg _ (by omega), fun h => Int.emod_lt_of_pos _ h, by omega, hc1, hg1⟩
 ·go_enter Tryz.func31, Tryz.ntmps31
  go_wp2_with fail
  refine (curByte p a n c xs _ hcur hcode).mono ?_
  rintro e w1 ⟨x, rfl, hx0, hx1, hc1, hg1⟩
  have hd1 := hcode.grown hg1
  clear hcur hcode
  go_wp2_with fail
  refine (curByte p a n c xs _ hc1 hd1).mono ?_
  rintro e w2 ⟨y, rfl, hy0, hy1, hc2, hg2⟩
  have hd2 := hd1.grown hg2
  have k2 := grown_trans hg1 hg2
  clear hc1 hd1 hg1 hg2
  go_wp2_with fail
  refine (curByte p a n c xs _ hc2 hd2).mono ?_
  rintro e w3 ⟨z, rfl, hz0, hz1, hc3, hg3⟩
  have hd3 := hd2.grown hg3
  have k3 := grown_trans k2 hg3
  clear hc2 hd2 k2 hg3
  go_wp2_with fail
  refine (curByte p a n c xs _ hc3 hd3).mono ?_
  rintro e w4 ⟨u, rfl, hu0, hu1, hc4, hg4⟩
  have k4 := grown_trans k3 hg4
  clear hc3 hd3 k3 hg4
  have hz : (N == 0) = false := by simp; omega
  go_wp2
  go_ret
  exact ⟨_, rfl, Int.emod_nonneg _ (by omega), fun h => Int.emod_lt_of_pos _ h, by omega, hc4, k4⟩

set_option maxHeartbeats 1000000 in
theorem curOnce (p : Nat) (a : Option Addr) (n c : Nat) (xs : List Int) (N : Int) (w : World) (hcur : Cur w p a n c) (hcode : Coded w p a n c xs) (hN : N ≤ 9223372036854775807) :
  Calls Tryz.prog 30 #[.pointer (some ⟨p, 0, none⟩), .int .i64 N] w fun e w' => ∃ x : Bool, e = .returned (.bool x) ∧ Cur w' p a n c ∧ w.grownBy w' (some p) := by
 go_enter Tryz.func30, Tryz.ntmps30
 go_wp2_with fail
 refine (curBelow p a n c xs N _ hcur hcode hN).mono ?_
 rintro e w1 ⟨x, rfl, _, _, _, hc1, hg1⟩
 go_wp2
 go_ret
 exact ⟨_, rfl, hc1, hg1⟩
theorem cur_lt {W : World} {p n c : Nat} {a : Option Addr} (h : Cur W p a n c) : p < W.heap.size := by
 obtain ⟨i, hh, _, hp⟩ := h
 exact (Array.getElem?_eq_some_iff.1 hp).1

theorem cur_keep {W W' : World} {p n c : Nat} {a : Option Addr} {row : Option Nat} (h : Cur W p a n c) (hg : W.grownBy W' row) (hr : row ≠ some p) : Cur W' p a n c := by
 have hlt := cur_lt h
 obtain ⟨i, hh, hi, hp⟩ := h
 exact ⟨i, hh, hi, (hg.block p hlt (fun e => hr e.symm)).trans hp⟩

theorem grown_alloc (w : World) (o : Obj) (r : Option Nat) : w.grownBy (w.alloc o) r := World.grownBy_alloc w o r

structure Dw (w W : World) (a : Option Addr) (n c : Nat) : Prop where
 fr : Below w.heap.size w W
 cur : Cur W w.heap.size a n c

theorem coded_of {w W : World} {a : Option Addr} {n c : Nat} {xs : List Int} (h : Bs w a n c xs) (hm : n ≤ 9223372036854775807) (hb : Below w.heap.size w W) : Coded W w.heap.size a n c xs := by
 refine ⟨h.below hb, hm, ?_⟩
 intro b o s ha hn
 obtain ⟨_, _, _, _, h⟩ := h
 rcases h with h | ⟨b', o', ha', hbs, _⟩
 ·exact absurd h hn
 ·rw [ha'] at ha
  simp only [Option.some.injEq, Addr.mk.injEq] at ha
  omega

theorem Dw.draw {w W W' : World} {a : Option Addr} {n c : Nat} (h : Dw w W a n c) (hc : Cur W' w.heap.size a n c) (hg : W.grownBy W' (some w.heap.size)) : Dw w W' a n c :=
 ⟨h.fr.grown hg h.fr.size (fun k hk => by simp at hk; omega), hc⟩

theorem Dw.alloc {w W : World} {a : Option Addr} {n c : Nat} (h : Dw w W a n c) (o : Obj) : Dw w (W.alloc o) a n c :=
 ⟨h.fr.alloc h.fr.size o, cur_keep h.cur (grown_alloc W o none) (by simp)⟩

theorem Dw.app {w W W' : World} {a : Option Addr} {n c m : Nat} {v : Value} {l : List Value} (h : Dw w W a n c) (ho : W.ownsRow (w.heap.size + 1) 5 1 v m l) (hg : W.grownBy W' v.ownBlock) : Dw w W' a n c :=
 ⟨h.fr.grown hg h.fr.size (fun k hk => by have := (ho.lt k hk).1; omega), cur_keep h.cur hg (fun e => by have := (ho.lt _ e).1; omega)⟩

theorem Dw.lt {w W : World} {a : Option Addr} {n c : Nat} (h : Dw w W a n c) : w.heap.size + 1 ≤ W.heap.size := cur_lt h.cur

theorem own_draw {W W' : World} {p m : Nat} {v : Value} {l : List Value} (h : W.ownsRow (p + 1) 5 1 v m l) (hg : W.grownBy W' (some p)) : W'.ownsRow (p + 1) 5 1 v m l :=
 h.kept hg (by
  cases hv : v.ownBlock with
  | none => exact .inl rfl
  | some k => exact .inr (fun e => by have := (h.lt k hv).1; simp at e; omega))

def Rw (w W : World) (v : Value) (l : List Int) : Prop := W.ownsRow (w.heap.size + 1) 5 1 v l.length (U8 l) ∧ ∀ x ∈ l, 0 ≤ x ∧ x < 256

theorem Rw.draw {w W W' : World} {v : Value} {l : List Int} (h : Rw w W v l) (hg : W.grownBy W' (some w.heap.size)) : Rw w W' v l := ⟨own_draw h.1 hg, h.2⟩
theorem Rw.alloc {w W : World} {v : Value} {l : List Int} (h : Rw w W v l) (o : Obj) : Rw w (W.alloc o) v l := ⟨h.1.alloc o, h.2⟩
theorem Rw.kept {w W W' : World} {u v : Value} {l : List Int} (h : Rw w W v l) (hg : W.grownBy W' u.ownBlock) (ha : Apart u v) : Rw w W' v l := ⟨own_kept h.1 hg ha, h.2⟩
end Go.Proofs.YtihoaakbkffejaaGreatDoor
namespace Go.Proofs.YtihoaakbkffejaaGreatDoor
open Go.RowKit
set_option maxRecDepth 100000

structure Msg (w W : World) (p : Nat) (a : Option Addr) (n c : Nat) (v : Value) (l : List Int) : Prop where
 byt : ∀ x ∈ l, 0 ≤ x ∧ x < 256
 own : W.ownsRow w.heap.size 5 1 v l.length (U8 l)
 cur : Cur W p a n c
 gr : w.grownBy W (some p)
theorem Msg.step {w W W1 W' : World} {p n c : Nat} {a : Option Addr} {v v' : Value} {l : List Int} {x : Int} (hp : p < w.heap.size) (h : Msg w W p a n c v l) (hg : W.grownBy W1 (some p)) (hc : Cur W1 p a n c) (hx : 0 ≤ x ∧ x ≤ 255) (o : Obj)
  (h1 : W'.ownsRow w.heap.size 5 1 v' (l.length + 1) (U8 (l ++ [x]))) (h2 : (W1.alloc o).grownBy W' v.ownBlock) : Msg w W' p a n c v' (l ++ [x]) := by
 have hown2 := h.own.kept hg (by
  cases hv : v.ownBlock with
  | none => exact .inl rfl
  | some k => exact .inr (fun e => by have := (h.own.lt k hv).1; simp at e; omega))
 refine ⟨fun z hz => ?_, by simpa using h1, ?_, ?_⟩
 ·rcases List.mem_append.1 hz with k | k
  ·exact h.byt z k
  ·simp at k; omega
 ·exact cur_keep (cur_keep hc (grown_alloc W1 _ none) (by simp)) h2 (fun e => by have := (hown2.lt p e).1; omega)
 ·exact grown_into (grown_into (grown_trans h.gr hg) (grown_alloc W1 _ none) (by intro k hk; cases hk)) h2 (fun k hk => .inl (hown2.lt k hk).1)
theorem Msg.own1 {w W W1 : World} {p n c : Nat} {a : Option Addr} {v : Value} {l : List Int} (hp : p < w.heap.size) (h : Msg w W p a n c v l) (hg : W.grownBy W1 (some p)) : W1.ownsRow w.heap.size 5 1 v l.length (U8 l) :=
 h.own.kept hg (by
  cases hv : v.ownBlock with
  | none => exact .inl rfl
  | some k => exact .inr (fun e => by have := (h.own.lt k hv).1; simp at e; omega))

set_option maxHeartbeats 1000000 in
theorem curMsg (p : Nat) (a : Option Addr) (n c : Nat) (xs : List Int) (w : World) (hcur : Cur w p a n c) (hcode : Coded w p a n c xs) :
  Calls Tryz.prog 29 #[.pointer (some ⟨p, 0, none⟩)] w fun e w' => ∃ (v : Value) (l : List Int), e = .returned v ∧ l.length ≤ 11 ∧ Msg w w' p a n c v l := by
 have hp0 := cur_lt hcur
 go_enter Tryz.func29, Tryz.ntmps29
 go_wp2_with fail
 refine (curBelow p a n c xs _ _ hcur hcode (by omega)).mono ?_
 rintro e w1 ⟨k, rfl, hk0, hk1, _, hc1, hg1⟩
 have hk2 := hk1 (by omega)
 clear hk1 hcur
 obtain ⟨M, rfl⟩ := Int.eq_ofNat_of_zero_le hk0
 have A0 : Msg w w1 p a n c (.slice none 0 0) [] := ⟨(fun x hx => by cases hx), World.ownsRow_nil _ _ _ _, hc1, hg1⟩
 clear hc1 hg1
 go_wp2
 go_loopw [3, 5] (fun v i wr => ∃ (l : List Int), l.length ≤ M ∧ i = .int .i64 (l.length : Int) ∧ Msg w wr p a n c v l) (fun _ i _ => M - (intOf i).toNat)
 case atStart => exact ⟨[], by simp, rfl, A0⟩
 case round =>
  obtain ⟨l, hlM, rfl, A⟩ := hrel
  clear A0
  by_cases hlt : l.length < M
  ·have hcd := hcode.grown A.gr
   go_wp2_with fail
   refine (curByte p a n c xs _ A.cur hcd).mono ?_
   rintro e w3 ⟨x, rfl, hx0, hx1, hc3, hg3⟩
   have hcv : IntKind.u8.wrap x = x := by simp [IntKind.wrap, IntKind.signed, IntKind.bits]; omega
   have ow := A.own1 hp0 hg3
   have hs2 := (grown_trans A.gr hg3).size
   go_wp2_with (at_builtin; refine wpl_append_bs rfl _ _ rfl w.heap.size _ l.length l rfl (some ⟨w3.heap.size, 0, none⟩) 1 1 [x] rfl (ow.alloc _) (Bs.one _ _ hx0 (by omega)) ?_ ?_ ?_)
   ·omega
   ·first | omega | (simp; omega)
   intro v' w4 h1 h2 _
   have A2 := A.step hp0 hg3 hc3 ⟨hx0, hx1⟩ _ (by simpa [U8] using h1) h2
   clear h1 h2 ow hc3 hg3 A hcd
   go_wp2
   go_roundw
   case rel => exact ⟨l ++ [x], by simp; omega, by simp, A2⟩
   case measure => simp [intOf]; omega
  ·go_wp2
   go_ret
   exact ⟨_, l, rfl, by omega, A⟩


set_option maxHeartbeats 1000000 in
theorem specSeed (N : Int) (w : World) (h0 : 0 ≤ N) (h1 : N ≤ 6) :
  Calls Tryz.prog 33 #[.int .i64 N] w fun e w' => ∃ g l, e = .returned (.slice (some ⟨g, 0, none⟩) 32 32) ∧ Bs w' (some ⟨g, 0, none⟩) 32 32 l ∧ Below w.heap.size w w' := by
 have hmk := make32
 have hc1 : IntKind.u8.wrap N = N := by simp [IntKind.wrap, IntKind.signed, IntKind.bits]; omega
 have hc2 : IntKind.u8.wrap (7 * N) = 7 * N := by simp [IntKind.wrap, IntKind.signed, IntKind.bits]; omega
 obtain ⟨W, hW⟩ : ∃ W, W = w.alloc (.cells zb32 5) := ⟨_, rfl⟩
 have o0 : W.ownsRow w.heap.size 5 1 (.slice (some ⟨w.heap.size, 0, none⟩) 32 32) 32 (U8 (List.replicate 32 0)) := by rw [hW]; exact World.ownsRow_lit (base := w.heap.size) (e := 5) (size := 1) w zb32 32 (Nat.le_refl _) (by unfold maxLen; omega) rfl
 have b0 : Below w.heap.size w W := by rw [hW]; exact (Below.refl _ _).alloc (Nat.le_refl _) _
 have fz := o0.frozenAt 0
 have o1 := own_at o0 0 (.int .u8 N)
 have b1 := b0.setCell (p := ⟨w.heap.size, 0, none⟩) (Nat.le_refl _) (.int .u8 N)
 obtain ⟨x, hx⟩ : ∃ x : Int, W.cell? ⟨w.heap.size, 0, none⟩ = some (.int .u8 x) := ⟨_, own_cell (K := .u8) o0 0 (by simp)⟩
 go_enter Tryz.func33, Tryz.ntmps33
 go_upto_region 2 with fail
 rw [← hW]
 clear hW o0 b0
 go_upto_region 3 with fail
 obtain ⟨W1, h2⟩ : ∃ Z, Z = W.setCell ⟨w.heap.size, 0, none⟩ (.int .u8 N) := ⟨_, rfl⟩
 rw [← h2] at o1 b1 ⊢
 clear h2 fz hx
 have fz := o1.frozenAt 31
 have o2 := own_at o1 31 (.int .u8 (7 * N))
 have b2 := b1.setCell (p := ⟨w.heap.size, 31, none⟩) (Nat.le_refl _) (.int .u8 (7 * N))
 obtain ⟨x, hx⟩ : ∃ x : Int, W1.cell? ⟨w.heap.size, 31, none⟩ = some (.int .u8 x) := ⟨_, own_cell (l := (List.replicate 32 0).set 0 N) (K := .u8) (by simpa only [U8, List.map_set] using o1) 31 (by simp)⟩
 go_wp2
 go_ret
 refine ⟨_, ((List.replicate 32 0).set 0 N).set 31 (7 * N), rfl, bs_of_own (by simpa only [U8, List.map_set] using o2) ?_, b2⟩
 intro y hy
 rcases List.mem_or_eq_of_mem_set hy with h | rfl
 ·rcases List.mem_or_eq_of_mem_set h with h | rfl
  ·have := List.eq_of_mem_replicate h; omega
  ·omega
 ·omega

end Go.Proofs.YtihoaakbkffejaaGreatDoor

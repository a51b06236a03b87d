/-
  What is proved here: the contracts of the program's ScAdd and ScMul: the sum and the product of two multipliers; where the program's variable holds the order; an append of zeros onto a row of bytes that the call itself owns; the bytes of one, as the laws make them; what the program's PtMul, PtBase, ScRead (of one) and ScAdd answer where their arguments are points and multipliers; where its variables hold what its text lays into them; plain facts on points in bytes, on multiples of the base, and what keys and signatures are made of; no program is spoken of, no condition; the contract of the specification's l7clamp; the contract of the specification's PubOf.
-/
import Derived.Test.YtihoaakbkffejaaGreatDoorSQhr
import Derived.Test.YtihoaakbkffejaaGreatDoorSJg
import Derived.Test.YtihoaakbkffejaaGreatDoorSOm0
import Derived.Test.YtihoaakbkffejaaGreatDoorSFm
import Derived.Lib.AppendZerosOnto
import Derived.Maps.AppendAt
import Derived.Test.YtihoaakbkffejaaGreatDoorSWy
import Derived.Test.YtihoaakbkffejaaGreatDoorSOhm
import Derived.Test.YtihoaakbkffejaaGreatDoorSFyq
import Derived.Test.YtihoaakbkffejaaGreatDoorSJa
import Derived.Deep.CutRange
namespace Go.Proofs.YtihoaakbkffejaaGreatDoor
open Go.RowKit
set_option maxRecDepth 100000

/-- The two boxes and the result's cell. -/
structure S3r (w W : World) (va vb : Value) : Prop where
  fr : Below w.heap.size w W
  pa : Arr W w.heap.size 41 [va]
  pb : Arr W (w.heap.size + 1) 41 [vb]
  pr : Arr W (w.heap.size + 2) 41 [.slice none 0 0]
  vr : Vr W 6 (I64 OL)
theorem S3r.go {w A B : World} {va vb : Value} (h : S3r w A va vb) (hb : Below A.heap.size A B) : S3r w B va vb := ⟨h.fr.trans (hb.mono h.fr.size), h.pa.kept hb, h.pb.kept hb, h.pr.kept hb, h.vr.kept hb⟩
theorem S3r.new {w : World} (va vb : Value) (h : Vr w 6 (I64 OL)) : S3r w (((w.alloc (.cells #[va] 41)).alloc (.cells #[vb] 41)).alloc (.cells #[.slice none 0 0] 41)) va vb := by
  have b1 : Below w.heap.size w (w.alloc (.cells #[va] 41)) := (Below.refl _ _).alloc (Nat.le_refl _) _
  have b2 := b1.alloc (by simp) (.cells #[vb] 41)
  have hb := b2.alloc (by simp; omega) (.cells #[.slice none 0 0] 41)
  refine ⟨hb, ((Arr.new w [va] _).alloc _).alloc _, ?_, ?_, h.kept hb⟩
  · have := (Arr.new (w.alloc (.cells #[va] 41)) [vb] 41).alloc (.cells #[.slice none 0 0] 41)
    rw [World.size_alloc] at this
    exact this
  · have := Arr.new ((w.alloc (.cells #[va] 41)).alloc (.cells #[vb] 41)) [.slice none 0 0] 41
    rw [World.size_alloc, World.size_alloc] at this
    exact this
/-- Two multipliers are laid into new cells. -/
theorem laid_mu2 (w1 : World) (L M : List Int) :
    Below w1.heap.size w1 ((((w1.alloc (.cells #[.int .i64 0, .int .i64 0, .int .i64 0, .int .i64 0, .int .i64 0, .int .i64 0, .int .i64 0, .int .i64 0, .int .i64 0, .int .i64 0, .int .i64 0, .int .i64 0, .int .i64 0, .int .i64 0, .int .i64 0, .int .i64 0] 92)).alloc (.cells #[.int .i64 0, .int .i64 0, .int .i64 0, .int .i64 0, .int .i64 0, .int .i64 0, .int .i64 0, .int .i64 0, .int .i64 0, .int .i64 0, .int .i64 0, .int .i64 0, .int .i64 0, .int .i64 0, .int .i64 0, .int .i64 0] 92)).setRow w1.heap.size (I64 L).toArray).setRow (w1.heap.size + 1) (I64 M).toArray) ∧
    Arr ((((w1.alloc (.cells #[.int .i64 0, .int .i64 0, .int .i64 0, .int .i64 0, .int .i64 0, .int .i64 0, .int .i64 0, .int .i64 0, .int .i64 0, .int .i64 0, .int .i64 0, .int .i64 0, .int .i64 0, .int .i64 0, .int .i64 0, .int .i64 0] 92)).alloc (.cells #[.int .i64 0, .int .i64 0, .int .i64 0, .int .i64 0, .int .i64 0, .int .i64 0, .int .i64 0, .int .i64 0, .int .i64 0, .int .i64 0, .int .i64 0, .int .i64 0, .int .i64 0, .int .i64 0, .int .i64 0, .int .i64 0] 92)).setRow w1.heap.size (I64 L).toArray).setRow (w1.heap.size + 1) (I64 M).toArray) w1.heap.size 92 (I64 L) ∧
    Arr ((((w1.alloc (.cells #[.int .i64 0, .int .i64 0, .int .i64 0, .int .i64 0, .int .i64 0, .int .i64 0, .int .i64 0, .int .i64 0, .int .i64 0, .int .i64 0, .int .i64 0, .int .i64 0, .int .i64 0, .int .i64 0, .int .i64 0, .int .i64 0] 92)).alloc (.cells #[.int .i64 0, .int .i64 0, .int .i64 0, .int .i64 0, .int .i64 0, .int .i64 0, .int .i64 0, .int .i64 0, .int .i64 0, .int .i64 0, .int .i64 0, .int .i64 0, .int .i64 0, .int .i64 0, .int .i64 0, .int .i64 0] 92)).setRow w1.heap.size (I64 L).toArray).setRow (w1.heap.size + 1) (I64 M).toArray) (w1.heap.size + 1) 92 (I64 M) ∧
    Arr ((w1.alloc (.cells #[.int .i64 0, .int .i64 0, .int .i64 0, .int .i64 0, .int .i64 0, .int .i64 0, .int .i64 0, .int .i64 0, .int .i64 0, .int .i64 0, .int .i64 0, .int .i64 0, .int .i64 0, .int .i64 0, .int .i64 0, .int .i64 0] 92)).alloc (.cells #[.int .i64 0, .int .i64 0, .int .i64 0, .int .i64 0, .int .i64 0, .int .i64 0, .int .i64 0, .int .i64 0, .int .i64 0, .int .i64 0, .int .i64 0, .int .i64 0, .int .i64 0, .int .i64 0, .int .i64 0, .int .i64 0] 92)) w1.heap.size 92 (I64 Z16) ∧
    Arr (((w1.alloc (.cells #[.int .i64 0, .int .i64 0, .int .i64 0, .int .i64 0, .int .i64 0, .int .i64 0, .int .i64 0, .int .i64 0, .int .i64 0, .int .i64 0, .int .i64 0, .int .i64 0, .int .i64 0, .int .i64 0, .int .i64 0, .int .i64 0] 92)).alloc (.cells #[.int .i64 0, .int .i64 0, .int .i64 0, .int .i64 0, .int .i64 0, .int .i64 0, .int .i64 0, .int .i64 0, .int .i64 0, .int .i64 0, .int .i64 0, .int .i64 0, .int .i64 0, .int .i64 0, .int .i64 0, .int .i64 0] 92)).setRow w1.heap.size (I64 L).toArray) (w1.heap.size + 1) 92 (I64 Z16) := by
  have q1 : Arr ((w1.alloc (.cells #[.int .i64 0, .int .i64 0, .int .i64 0, .int .i64 0, .int .i64 0, .int .i64 0, .int .i64 0, .int .i64 0, .int .i64 0, .int .i64 0, .int .i64 0, .int .i64 0, .int .i64 0, .int .i64 0, .int .i64 0, .int .i64 0] 92)).alloc (.cells #[.int .i64 0, .int .i64 0, .int .i64 0, .int .i64 0, .int .i64 0, .int .i64 0, .int .i64 0, .int .i64 0, .int .i64 0, .int .i64 0, .int .i64 0, .int .i64 0, .int .i64 0, .int .i64 0, .int .i64 0, .int .i64 0] 92)) w1.heap.size 92 (I64 Z16) := (Arr.new w1 (I64 Z16) _).alloc _
  have q2 : Arr ((w1.alloc (.cells #[.int .i64 0, .int .i64 0, .int .i64 0, .int .i64 0, .int .i64 0, .int .i64 0, .int .i64 0, .int .i64 0, .int .i64 0, .int .i64 0, .int .i64 0, .int .i64 0, .int .i64 0, .int .i64 0, .int .i64 0, .int .i64 0] 92)).alloc (.cells #[.int .i64 0, .int .i64 0, .int .i64 0, .int .i64 0, .int .i64 0, .int .i64 0, .int .i64 0, .int .i64 0, .int .i64 0, .int .i64 0, .int .i64 0, .int .i64 0, .int .i64 0, .int .i64 0, .int .i64 0, .int .i64 0] 92)) (w1.heap.size + 1) 92 (I64 Z16) := by
    have := Arr.new (w1.alloc (.cells (I64 Z16).toArray 92)) (I64 Z16) 92
    rw [World.size_alloc] at this
    exact this
  have hb : Below w1.heap.size w1 ((w1.alloc (.cells #[.int .i64 0, .int .i64 0, .int .i64 0, .int .i64 0, .int .i64 0, .int .i64 0, .int .i64 0, .int .i64 0, .int .i64 0, .int .i64 0, .int .i64 0, .int .i64 0, .int .i64 0, .int .i64 0, .int .i64 0, .int .i64 0] 92)).alloc (.cells #[.int .i64 0, .int .i64 0, .int .i64 0, .int .i64 0, .int .i64 0, .int .i64 0, .int .i64 0, .int .i64 0, .int .i64 0, .int .i64 0, .int .i64 0, .int .i64 0, .int .i64 0, .int .i64 0, .int .i64 0, .int .i64 0] 92)) := ((Below.refl _ _).alloc (Nat.le_refl _) _).alloc (by simp) _
  exact ⟨setRow_below (setRow_below hb _ _ (Nat.le_refl _)) _ _ (by omega), (q1.row _).rowOther _ _ (by omega), (q2.rowOther _ _ (by omega)).row _, q1, q2.rowOther _ _ (by omega)⟩

set_option maxHeartbeats 2000000 in
theorem implScAdd (a : Option Addr) (n c : Nat) (xs : List Int) (b : Option Addr) (m d : Nat) (ys : List Int) (w : World) (hx : Is w a n c xs) (hy : Is w b m d ys) (hV : Vr w 6 (I64 OL)) :
    Calls Tryz.prog 38 #[.agg #[.slice a n c], .agg #[.slice b m d]] w fun e w' => ∃ v, e = .returned (.tuple #[v, .bool (scOk xs && scOk ys)]) ∧ FeT 65 w w' v (sc2 (fun x y => x + y) xs ys) ∧ Below w.heap.size w w' := by
  obtain ⟨W, hW⟩ : ∃ W, W = ((w.alloc (.cells #[.slice a n c] 41)).alloc (.cells #[.slice b m d] 41)).alloc (.cells #[.slice none 0 0] 41) := ⟨_, rfl⟩
  have EE : S3r w W (.slice a n c) (.slice b m d) := by rw [hW]; exact S3r.new _ _ hV
  have HO := implMus a n c xs b m d ys W (hx.below EE.fr) (hy.below EE.fr) EE.vr
  have hSl := scL_len xs
  have hTl := scL_len ys
  obtain ⟨o, ho⟩ : ∃ o, o = (scOk xs && scOk ys) := ⟨_, rfl⟩
  obtain ⟨Q, hQ⟩ : ∃ Q, Q = sc2 (fun x y => x + y) xs ys := ⟨_, rfl⟩
  obtain ⟨R, hR⟩ : ∃ R, R = redO (val xs + val ys) := ⟨_, rfl⟩
  have hRl : R.length = 16 := by rw [hR]; exact redO_len _
  have HQ0 : Hid (o = false → Q = []) := by unfold Hid; intro h; rw [hQ]; unfold sc2; rw [← ho, h]; rfl
  have HQ1 : Hid (o = true → Q = R) := by unfold Hid; intro h; rw [hQ, hR]; unfold sc2; rw [← ho, h]; rfl
  have HF : Hid (o = true → ∀ Z, Vr Z 6 (I64 OL) → Calls Tryz.prog 82 #[.agg (I64 (scL xs)).toArray, .agg (I64 (scL ys)).toArray] Z fun e w' => e = .returned (.agg (I64 R).toArray) ∧ Below Z.heap.size Z w') := by
    unfold Hid; intro h Z hZ
    rw [ho, Bool.and_eq_true] at h
    have e1 : scL xs = xs := by unfold scL; rw [if_pos h.1]
    have e2 : scL ys = ys := by unfold scL; rw [if_pos h.2]
    rw [e1, e2, hR]
    exact implMuSum xs ys Z h.1 h.2 hZ
  obtain ⟨S, hS⟩ : ∃ S, S = scL xs := ⟨_, rfl⟩
  obtain ⟨T, hT⟩ : ∃ T, T = scL ys := ⟨_, rfl⟩
  rw [← hS] at HO hSl HF
  rw [← hT] at HO hTl HF
  rw [← ho] at HO ⊢
  rw [← hQ]
  have HO' : Hid (Calls Tryz.prog 80 #[.agg #[.slice a n c], .agg #[.slice b m d]] W fun e w' => e = .returned (.tuple #[.agg (I64 S).toArray, .agg (I64 T).toArray, .bool o]) ∧ Below W.heap.size W w') := HO
  have his : (Tryz.prog.info? 92).map (·.size) = some (I64 S).toArray.size := by simpa [hSl] using infoM
  have hit : (Tryz.prog.info? 92).map (·.size) = some (I64 T).toArray.size := by simpa [hTl] using infoM
  clear HO hS hT ho hQ hR hx hy hV
  go_enter Tryz.func38, Tryz.ntmps38
  go_wp2_with fail
  rw [← hW]
  refine HO'.out.mono ?_
  rintro e w1 ⟨rfl, hb1⟩
  replace EE := EE.go hb1
  obtain ⟨bV, p1, p2, q1, q2⟩ := laid_mu2 w1 S T
  have hlt1 := EE.pr.lt
  replace EE := EE.go bV
  clear hW hb1 HO' bV
  obtain ⟨V, hVV⟩ : ∃ V, V = (((w1.alloc (.cells #[.int .i64 0, .int .i64 0, .int .i64 0, .int .i64 0, .int .i64 0, .int .i64 0, .int .i64 0, .int .i64 0, .int .i64 0, .int .i64 0, .int .i64 0, .int .i64 0, .int .i64 0, .int .i64 0, .int .i64 0, .int .i64 0] 92)).alloc (.cells #[.int .i64 0, .int .i64 0, .int .i64 0, .int .i64 0, .int .i64 0, .int .i64 0, .int .i64 0, .int .i64 0, .int .i64 0, .int .i64 0, .int .i64 0, .int .i64 0, .int .i64 0, .int .i64 0, .int .i64 0, .int .i64 0] 92)).setRow w1.heap.size (I64 S).toArray).setRow (w1.heap.size + 1) (I64 T).toArray := ⟨_, rfl⟩
  rw [← hVV] at EE p1 p2
  have HV : Hid _ := hVV
  cases o with
  | false =>
    have HE : Hid (Q = []) := HQ0.out rfl
    have hcr : V.cell? ⟨w.heap.size + 2, 0, none⟩ = some (.slice none 0 0) := EE.pr.cell 0
    have hfr := EE.pr.frozen 0
    have HA : Hid _ := EE.pr.set 0 (.slice none 0 0)
    have HB : Hid _ := EE.fr.setCell (p := ⟨w.heap.size + 2, 0, none⟩) (by simp only; omega) (.slice none 0 0)
    rw [hVV] at hcr hfr
    clear EE HQ0 HQ1 HF p1 p2 hVV
    go_wp2_with (first
      | (refine wpList_store_row rfl 92 _ _ rfl w1.heap.size (I64 S).toArray rfl rfl 92 _ q1 his (by simp [hSl]) (by simp [Value.oneCell']) ?_)
      | (refine wpList_store_row rfl 92 _ _ rfl (w1.heap.size + 1) (I64 T).toArray rfl rfl 92 _ q2 hit (by simp [hTl]) (by simp [Value.oneCell']) ?_))
    rw [← HV.out]
    exact bodyPost_ret (results_row_tmp (v := .bool false) (cs := [.slice none 0 0]) rfl rfl rfl HA.out Tryz.underlying41 rfl infoSc) rfl ⟨_, rfl, HE.out ▸ feT_nil _ _ _, HB.out⟩
  | true =>
    have HE : Hid (Q = R) := HQ1.out rfl
    have HY : Hid (∀ Z, Vr Z 6 (I64 OL) → Calls Tryz.prog 82 #[.agg (I64 S).toArray, .agg (I64 T).toArray] Z fun e w' => e = .returned (.agg (I64 R).toArray) ∧ Below Z.heap.size Z w') := HF.out rfl
    rw [hVV] at p1 p2
    clear HQ0 HQ1 HF hVV
    go_wp2_with (first
      | (refine wpList_store_row rfl 92 _ _ rfl w1.heap.size (I64 S).toArray rfl rfl 92 _ q1 his (by simp [hSl]) (by simp [Value.oneCell']) ?_)
      | (refine wpList_store_row rfl 92 _ _ rfl (w1.heap.size + 1) (I64 T).toArray rfl rfl 92 _ q2 hit (by simp [hTl]) (by simp [Value.oneCell']) ?_)
      | (refine wpList_load_row rfl 92 _ rfl w1.heap.size rfl 92 (I64 S).toArray (0, 0) _ p1 Tryz.underlying92 rfl his ?_)
      | (refine wpList_load_row rfl 92 _ rfl (w1.heap.size + 1) rfl 92 (I64 T).toArray (0, 0) _ p2 Tryz.underlying92 rfl hit ?_))
    rw [← HV.out]
    clear HV p1 p2 q1 q2
    refine (HY.out _ EE.vr).mono ?_
    rintro e w2 ⟨rfl, hb2⟩
    replace EE := EE.go hb2
    clear hb2 HY
    go_wp2_with (refine wpList_part rfl _ rfl R hRl rfl ?_)
    refine (implList R _ hRl).mono ?_
    rintro e w4 ⟨a', c', rfl, ho, hb4⟩
    have hlt := EE.pr.lt
    have hsz := EE.fr.size
    replace EE := EE.go hb4
    have HOW : Hid _ := own_base (own_otherS ho ⟨w.heap.size + 2, 0, none⟩ (.slice a' 16 c') hlt) hsz
    have hcr : w4.cell? ⟨w.heap.size + 2, 0, none⟩ = some (.slice none 0 0) := EE.pr.cell 0
    have hfr := EE.pr.frozen 0
    have HA : Hid _ := EE.pr.set 0 (.slice a' 16 c')
    have HB : Hid _ := EE.fr.setCell (p := ⟨w.heap.size + 2, 0, none⟩) (by simp only; omega) (.slice a' 16 c')
    clear EE ho hb4 hsz hlt
    go_wp2
    exact bodyPost_ret (results_row_tmp (v := .bool true) (cs := [.slice a' 16 c']) rfl rfl rfl HA.out Tryz.underlying41 rfl infoSc) rfl ⟨_, rfl, HE.out ▸ feT_16 hRl HOW.out, HB.out⟩

end Go.Proofs.YtihoaakbkffejaaGreatDoor
namespace Go.Proofs.YtihoaakbkffejaaGreatDoor
open Go.RowKit
set_option maxRecDepth 100000

end Go.Proofs.YtihoaakbkffejaaGreatDoor
namespace Go.Proofs.YtihoaakbkffejaaGreatDoor
open Go.RowKit
set_option maxRecDepth 100000

end Go.Proofs.YtihoaakbkffejaaGreatDoor
namespace Go.Proofs.YtihoaakbkffejaaGreatDoor
open Go.RowKit
set_option maxRecDepth 100000
set_option maxHeartbeats 4000000
set_option linter.unusedSectionVars false

theorem sc_int {l : List Int} (h : scOk l = true) : ∀ x ∈ l, -9223372036854775808 ≤ x ∧ x ≤ 9223372036854775807 := fun x hx => by have := ((scOk_iff l).1 h).2.1 x hx; omega
theorem qO_oN : qO = (oN : Int) := by decide
section
variable [NeZero pN]
end
end Go.Proofs.YtihoaakbkffejaaGreatDoor
namespace Go.Proofs.YtihoaakbkffejaaGreatDoor
open Go.RowKit
set_option maxRecDepth 100000

/-- Wide bytes that are zero behind the first half. -/
theorem val_app0' : ∀ (l : List Int) (n : Nat), val (l ++ List.replicate n 0) = val l
  | [], n => by
    induction n with
    | zero => rfl
    | succ n ih => simp only [List.nil_append] at ih ⊢; rw [List.replicate_succ]; show (0 : Int) + 65536 * val (List.replicate n 0) = 0; rw [ih]; rfl
  | x :: l, n => by show x + 65536 * val (l ++ List.replicate n 0) = x + 65536 * val l; rw [val_app0' l n]
theorem some_getD {l : List Int} {i : Nat} (h : i < l.length) : l[i]? = some (l.getD i 0) := by simp [List.getD, List.getElem?_eq_getElem h]
theorem wdL_pad {bs : List Int} (hl : bs.length = 32) (zs : List Int) (hz : zs = List.replicate 32 0) : wdL (bs ++ zs) = rdL bs ++ List.replicate 16 0 := by
  apply List.ext_getElem?
  intro i
  have gl : ∀ j, j < 32 → (bs ++ zs).getD j 0 = bs.getD j 0 := fun j hj => by
    simp only [List.getD, List.getElem?_append_left (show j < bs.length by omega)]
  have gr : ∀ j, 32 ≤ j → (bs ++ zs).getD j 0 = 0 := fun j hj => by
    rw [hz]
    simp only [List.getD, List.getElem?_append_right (show bs.length ≤ j by omega), List.getElem?_replicate]
    split <;> rfl
  by_cases h1 : i < 16
  · rw [List.getElem?_append_left (by rw [rdL_len]; exact h1), some_getD (by rw [wdL_len]; omega), some_getD (by rw [rdL_len]; omega), wdL_get _ i (by omega), rdL_get _ i h1, gl _ (by omega), gl _ (by omega)]
  · rw [List.getElem?_append_right (by rw [rdL_len]; omega), rdL_len, List.getElem?_replicate]
    by_cases h2 : i < 32
    · rw [some_getD (by rw [wdL_len]; omega), wdL_get _ i (by omega), gr _ (by omega), gr _ (by omega), if_pos (by omega)]
      rfl
    · rw [List.getElem?_eq_none (by rw [wdL_len]; omega), if_neg (by omega)]
theorem wide_pad {bs : List Int} (hl : bs.length = 32) : val (wdL (bs ++ List.replicate 32 0)) = val (rdL bs) := by rw [wdL_pad hl _ rfl, val_app0']

/-- The bytes of a point. -/
def enc (p : KF × KF) : List Int := ptBt (cx p.1) (cx p.2)
theorem enc_len (p : KF × KF) : (enc p).length = 32 := ptBt_len (feOk_len (cx_ok _))
theorem enc_byte (p : KF × KF) : ∀ x ∈ enc p, 0 ≤ x ∧ x < 256 := ptBt_byte (cx_ok _)
section
variable [NeZero pN]
theorem ptBt_ext {P : E4} {p : KF × KF} (h : Ext6 P p) : ptBt (flx P) (fly P) = enc p := by
  obtain ⟨a, b⟩ := ext6_flat h
  unfold enc
  rw [a, b]
theorem ptBF_cx {p : KF × KF} (h : On dK p) : ptBF (cx p.1) (cx p.2) = enc p := by
  unfold ptBF
  rw [if_pos (pt_ok h), ptBt_ext (ext6_make _ _), fl_cx, fl_cx]
/-- A multiple of the base hangs on the number modulo the order alone. -/
theorem mul_red (N : Nat) : pMul dK ivK (N % oN) baseK = pMul dK ivK N baseK := by
  have := mul_sum 0 N
  rw [Nat.zero_add] at this
  rw [this]
  exact crvK.zero_add _
end
/-! What a seed comes to. -/
def sA (seed : List Int) : List Int := clL (rdL ((sumOfW seed).take 32))
def mS (xs : List Int) : List Int := redO (val (wdL (sumOfW xs)))
theorem sA_len (seed : List Int) : (sA seed).length = 16 := clL_len (rdL_len _)
theorem take_byte {l : List Int} (h : ∀ x ∈ l, 0 ≤ x ∧ x < 256) (n : Nat) : ∀ x ∈ l.take n, 0 ≤ x ∧ x < 256 := fun x hx => h x (List.mem_of_mem_take hx)
theorem drop_byte {l : List Int} (h : ∀ x ∈ l, 0 ≤ x ∧ x < 256) (n : Nat) : ∀ x ∈ l.drop n, 0 ≤ x ∧ x < 256 := fun x hx => h x (List.mem_of_mem_drop hx)
theorem app_byte {l m : List Int} (h : ∀ x ∈ l, 0 ≤ x ∧ x < 256) (k : ∀ x ∈ m, 0 ≤ x ∧ x < 256) : ∀ x ∈ l ++ m, 0 ≤ x ∧ x < 256 := fun x hx => (List.mem_append.1 hx).elim (h x) (k x)
theorem lm_256 {l : List Int} (h : l.length = 16) (hm : Lm l) : 0 ≤ val l ∧ (val l).toNat < 2 ^ 256 := by
  have h0 := val_nonneg (fun x hx => (hm x hx).1)
  have h1 := val_lt hm
  rw [h] at h1
  refine ⟨h0, ?_⟩
  have : (65536 : Int) ^ 16 = ((2 ^ 256 : Nat) : Int) := by decide
  rw [this] at h1
  omega
end Go.Proofs.YtihoaakbkffejaaGreatDoor
namespace Go.Proofs.YtihoaakbkffejaaGreatDoor
open Go.RowKit
set_option maxRecDepth 100000

end Go.Proofs.YtihoaakbkffejaaGreatDoor
namespace Go.Proofs.YtihoaakbkffejaaGreatDoor
open Go.RowKit
set_option maxRecDepth 100000

/-- The bytes of a multiple of the base. -/
def baseB (N : Nat) : List Int := enc (@pMul pN nzP dK ivK N baseK)
theorem baseB_len (N : Nat) : (baseB N).length = 32 := enc_len _
theorem baseB_byte (N : Nat) : ∀ x ∈ baseB N, 0 ≤ x ∧ x < 256 := enc_byte _
theorem baseB_red (N : Nat) : baseB (N % oN) = baseB N := by
  haveI := nzP
  unfold baseB
  rw [mul_red]
theorem sumOfW_byte (xs : List Int) : ∀ y ∈ sumOfW xs, 0 ≤ y ∧ y < 256 := sumW_byte _
def pbOk (seed : List Int) : Bool := decide (seed.length = 32)
def pbL (seed : List Int) : List Int := if pbOk seed = true then baseB (val (sA seed)).toNat else []
theorem pbL_byte (seed : List Int) : ∀ x ∈ pbL seed, 0 ≤ x ∧ x < 256 := by
  unfold pbL; split
  · exact baseB_byte _
  · intro x hx; cases hx
theorem sA_lm (seed : List Int) : Lm (sA seed) := clL_lm (rdL_lm (take_byte (sumOfW_byte _) 32))

end Go.Proofs.YtihoaakbkffejaaGreatDoor

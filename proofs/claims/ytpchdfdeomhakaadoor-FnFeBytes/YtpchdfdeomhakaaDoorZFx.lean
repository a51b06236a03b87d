/-
  What is proved here: contracts of the specification's FeAdd, FeSub and FeMul.
-/
import Derived.Test.YtpchdfdeomhakaaDoorZI
namespace Go.Proofs.YtpchdfdeomhakaaDoor
open Go.RowKit
set_option maxRecDepth 100000

/-- Two arguments and the result's cell, through whatever keeps what is there. -/
structure F3 (w W : World) (va vb : Value) : Prop where
  fr : Below w.heap.size w W
  pa : Arr W w.heap.size 25 [va]
  pb : Arr W (w.heap.size + 1) 25 [vb]
  pr : Arr W (w.heap.size + 1 + 1) 25 [.slice none 0 0]
theorem F3.go {w A B : World} {va vb : Value} (h : F3 w A va vb) (hb : Below A.heap.size A B) : F3 w B va vb := ⟨h.fr.trans (hb.mono h.fr.size), h.pa.kept hb, h.pb.kept hb, h.pr.kept hb⟩
theorem F3.two {w W : World} {va vb : Value} (h : F3 w W va vb) : W.cell? ⟨w.heap.size, 0, none⟩ = some va ∧ W.cell? ⟨w.heap.size + 1, 0, none⟩ = some vb := ⟨h.pa.cell 0, h.pb.cell 0⟩
theorem F3.new (w : World) (va vb : Value) : F3 w (((w.alloc (.cells #[va] 25)).alloc (.cells #[vb] 25)).alloc (.cells #[.slice none 0 0] 25)) va vb := by
  refine ⟨(((Below.refl _ _).alloc (Nat.le_refl _) _).alloc (by simp) _).alloc (by simp; omega) _, ((Arr.new w [va] _).alloc _).alloc _, ?_, ?_⟩
  · have := (Arr.new (w.alloc (.cells #[va] 25)) [vb] 25).alloc (.cells #[.slice none 0 0] 25)
    rw [World.size_alloc] at this
    exact this
  · have := Arr.new ((w.alloc (.cells #[va] 25)).alloc (.cells #[vb] 25)) [.slice none 0 0] 25
    rw [World.size_alloc, World.size_alloc] at this
    exact this
/-- The store of the answer. -/
theorem F3.put {w W : World} {va vb : Value} (h : F3 w W va vb) (v : Value) : (W.setCell ⟨w.heap.size + 1 + 1, 0, none⟩ v).cell? ⟨w.heap.size, 0, none⟩ = some va ∧ (W.setCell ⟨w.heap.size + 1 + 1, 0, none⟩ v).cell? ⟨w.heap.size + 1, 0, none⟩ = some vb :=
  ⟨(h.pa.other ⟨w.heap.size + 1 + 1, 0, none⟩ v (by show w.heap.size ≠ w.heap.size + 1 + 1; omega)).cell 0, (h.pb.other ⟨w.heap.size + 1 + 1, 0, none⟩ v (by show w.heap.size + 1 ≠ w.heap.size + 1 + 1; omega)).cell 0⟩
/-- What a function of two numbers answers. -/
def fe2 (f : Int → Int → Int) (xs ys : List Int) : List Int := if (feOk xs && feOk ys) = true then red (f (val xs) (val ys)) else []

set_option maxHeartbeats 2000000 in
theorem specFeAdd (a : Option Addr) (n c : Nat) (xs : List Int) (b : Option Addr) (m d : Nat) (ys : List Int) (w : World) (hx : Is w a n c xs) (hy : Is w b m d ys) :
    Calls Tryd.prog 36 #[.agg #[.slice a n c], .agg #[.slice b m d]] w fun e w' => ∃ v, e = .returned (.tuple #[v, .bool (feOk xs && feOk ys)]) ∧ FeIs w w' v (fe2 (· + ·) xs ys) ∧ Below w.heap.size w w' := by
  obtain ⟨L, hL⟩ : ∃ L, L = fe2 (· + ·) xs ys := ⟨_, rfl⟩
  rw [← hL]
  have HL0 : Hid ((feOk xs && feOk ys) = false → L = []) := by unfold Hid; intro h; rw [hL]; unfold fe2; rw [h]; rfl
  have HL1 : Hid (feOk xs = true → feOk ys = true → L = red (val xs + val ys)) := by unfold Hid; intro h h'; rw [hL]; unfold fe2; rw [h, h']; rfl
  clear hL
  have EE : F3 w _ (.slice a n c) (.slice b m d) := F3.new w (.slice a n c) (.slice b m d)
  obtain ⟨W, hW⟩ : ∃ W, W = ((w.alloc (.cells #[.slice a n c] 25)).alloc (.cells #[.slice b m d] 25)).alloc (.cells #[.slice none 0 0] 25) := ⟨_, rfl⟩
  rw [← hW] at EE
  obtain ⟨p, hp⟩ : ∃ p, p = feOk xs := ⟨_, rfl⟩
  obtain ⟨q, hq⟩ : ∃ q, q = feOk ys := ⟨_, rfl⟩
  have HP : Hid _ := hp
  have HQ : Hid _ := hq
  rw [← hp, ← hq] at HL0 ⊢
  clear hp hq
  go_enter Tryd.func36, Tryd.ntmps36
  go_wp2_with fail
  rw [← hW]
  clear hW
  refine (specFeOk a n c xs _ (hx.below EE.fr)).mono ?_
  rintro e w1 ⟨rfl, hb1⟩
  replace EE := EE.go hb1
  clear hb1
  rw [← HP.out]
  have hca := EE.pa.cell 0
  have hcb := EE.pb.cell 0
  have hcr := EE.pr.cell 0
  have hfr := EE.pr.frozen 0
  cases p with
  | false =>
    have HA : Hid _ := EE.pr.set 0 (.slice none 0 0)
    have HB : Hid _ := EE.fr.setCell (p := ⟨w.heap.size + 1 + 1, 0, none⟩) (by show w.heap.size ≤ w.heap.size + 1 + 1; omega) (.slice none 0 0)
    have HE : Hid (L = []) := HL0.out rfl
    clear EE HL0 HL1 HP HQ
    simp only [List.getElem?_cons_zero] at hca hcb hcr
    go_wp2
    exact bodyPost_ret (results_row_tmp (v := .bool false) (cs := [.slice none 0 0]) rfl rfl rfl HA.out Tryd.underlying25 rfl infoFe) rfl ⟨_, rfl, HE.out ▸ feIs_nil _ _, HB.out⟩
  | true =>
    simp only [List.getElem?_cons_zero] at hca hcb hcr
    go_wp2_with fail
    clear hca hcb hcr hfr
    refine (specFeOk b m d ys _ (hy.below EE.fr)).mono ?_
    rintro e w2 ⟨rfl, hb2⟩
    replace EE := EE.go hb2
    clear hb2
    rw [← HQ.out]
    have hca := EE.pa.cell 0
    have hcb := EE.pb.cell 0
    have hcr := EE.pr.cell 0
    have hfr := EE.pr.frozen 0
    simp only [List.getElem?_cons_zero] at hca hcb hcr
    cases q with
    | false =>
      have HA : Hid _ := EE.pr.set 0 (.slice none 0 0)
      have HB : Hid _ := EE.fr.setCell (p := ⟨w.heap.size + 1 + 1, 0, none⟩) (by show w.heap.size ≤ w.heap.size + 1 + 1; omega) (.slice none 0 0)
      have HE : Hid (L = []) := HL0.out rfl
      clear EE HL0 HL1 HP HQ
      go_wp2
      exact bodyPost_ret (results_row_tmp (v := .bool false) (cs := [.slice none 0 0]) rfl rfl rfl HA.out Tryd.underlying25 rfl infoFe) rfl ⟨_, rfl, HE.out ▸ feIs_nil _ _, HB.out⟩
    | true =>
      clear hca hcb hcr hfr
      obtain ⟨xl, xm, xv⟩ := (feOk_iff xs).1 HP.out.symm
      obtain ⟨yl, ym, yv⟩ := (feOk_iff ys).1 HQ.out.symm
      obtain rfl : n = 16 := by have := hx.2.1; omega
      obtain rfl : m = 16 := by have := hy.2.1; omega
      have hLr := HL1.out HP.out.symm HQ.out.symm
      have hLl : L.length = 16 := by rw [hLr]; exact red_len _
      have hLm : Lm L := by rw [hLr]; exact red_lm _
      have HOP : Hid (∀ Z, Calls Tryd.prog 75 #[.agg (I64 xs).toArray, .agg (I64 ys).toArray] Z fun e w' => e = .returned (.agg (I64 L).toArray) ∧ Below Z.heap.size Z w') := by
        unfold Hid; intro Z; rw [hLr]; exact specAdd16 xs ys Z xl yl xm ym
      have HXI : Hid (∀ Z, Below w.heap.size w Z → Calls Tryd.prog 63 #[.agg #[.slice a 16 c]] Z fun e w' => e = .returned (.agg (I64 xs).toArray) ∧ Below Z.heap.size Z w') := by
        unfold Hid; intro Z hZ; exact specIn a c xs Z (hx.below hZ)
      have HYI : Hid (∀ Z, Below w.heap.size w Z → Calls Tryd.prog 63 #[.agg #[.slice b 16 d]] Z fun e w' => e = .returned (.agg (I64 ys).toArray) ∧ Below Z.heap.size Z w') := by
        unfold Hid; intro Z hZ; exact specIn b d ys Z (hy.below hZ)
      clear HL0 HL1 HP HQ hLr xl xm xv yl ym yv hx hy
      replace EE : F3 w w2.drew (.slice a 16 c) (.slice b 16 d) := EE.go (Below.refl _ _).drew
      go_wp2
      go_region_held3 (fun W => W.cell? ⟨w.heap.size, 0, none⟩ = some (.slice a 16 c) ∧ W.cell? ⟨w.heap.size + 1, 0, none⟩ = some (.slice b 16 d))
        (first
          | exact EE.two
          | exact hS5)
        ((first
          | (go_at_call_of 63 (Value.agg #[Value.slice a 16 c]); refine (HXI.out _ EE.fr).mono ?_; rintro e w3 ⟨rfl, hb3⟩; replace EE := EE.go hb3; clear hb3)
          | (go_at_call_of 63 (Value.agg #[Value.slice b 16 d]); refine (HYI.out _ EE.fr).mono ?_; rintro e w4 ⟨rfl, hb4⟩; replace EE := EE.go hb4; clear hb4)
          | (go_at_call 75; refine (HOP.out _).mono ?_; rintro e w5 ⟨rfl, hb5⟩; replace EE := EE.go hb5; clear hb5)
          | (go_at_call 61; refine (specOut L _ hLl hLm).mono ?_; rintro e w6 ⟨a', c', rfl, ho, hb6⟩; have hlt := EE.pr.lt; have hsz := EE.fr.size; replace EE := EE.go hb6; have hS5 := EE.put (.slice a' 16 c'); have HO : Hid _ := own_base (own_other' ho ⟨w.heap.size + 1 + 1, 0, none⟩ (.slice a' 16 c') hlt) hsz; have hcr : w6.cell? ⟨w.heap.size + 1 + 1, 0, none⟩ = some (.slice none 0 0) := EE.pr.cell 0; have hfr := EE.pr.frozen 0; have HA : Hid _ := EE.pr.set 0 (.slice a' 16 c'); have HB : Hid _ := EE.fr.setCell (p := ⟨w.heap.size + 1 + 1, 0, none⟩) (by show w.heap.size ≤ w.heap.size + 1 + 1; omega) (.slice a' 16 c'); clear ho hb6 hsz)))
      all_goals
        go_wp2
        exact bodyPost_ret (results_row_tmp (v := .bool true) (cs := [.slice a' 16 c']) rfl rfl rfl HA.out Tryd.underlying25 rfl infoFe) rfl ⟨_, rfl, feIs_16 hLl HO.out, HB.out⟩
set_option maxHeartbeats 2000000 in
theorem specFeSub (a : Option Addr) (n c : Nat) (xs : List Int) (b : Option Addr) (m d : Nat) (ys : List Int) (w : World) (hx : Is w a n c xs) (hy : Is w b m d ys) :
    Calls Tryd.prog 39 #[.agg #[.slice a n c], .agg #[.slice b m d]] w fun e w' => ∃ v, e = .returned (.tuple #[v, .bool (feOk xs && feOk ys)]) ∧ FeIs w w' v (fe2 (· - ·) xs ys) ∧ Below w.heap.size w w' := by
  obtain ⟨L, hL⟩ : ∃ L, L = fe2 (· - ·) xs ys := ⟨_, rfl⟩
  rw [← hL]
  have HL0 : Hid ((feOk xs && feOk ys) = false → L = []) := by unfold Hid; intro h; rw [hL]; unfold fe2; rw [h]; rfl
  have HL1 : Hid (feOk xs = true → feOk ys = true → L = red (val xs - val ys)) := by unfold Hid; intro h h'; rw [hL]; unfold fe2; rw [h, h']; rfl
  clear hL
  have EE : F3 w _ (.slice a n c) (.slice b m d) := F3.new w (.slice a n c) (.slice b m d)
  obtain ⟨W, hW⟩ : ∃ W, W = ((w.alloc (.cells #[.slice a n c] 25)).alloc (.cells #[.slice b m d] 25)).alloc (.cells #[.slice none 0 0] 25) := ⟨_, rfl⟩
  rw [← hW] at EE
  obtain ⟨p, hp⟩ : ∃ p, p = feOk xs := ⟨_, rfl⟩
  obtain ⟨q, hq⟩ : ∃ q, q = feOk ys := ⟨_, rfl⟩
  have HP : Hid _ := hp
  have HQ : Hid _ := hq
  rw [← hp, ← hq] at HL0 ⊢
  clear hp hq
  go_enter Tryd.func39, Tryd.ntmps39
  go_wp2_with fail
  rw [← hW]
  clear hW
  refine (specFeOk a n c xs _ (hx.below EE.fr)).mono ?_
  rintro e w1 ⟨rfl, hb1⟩
  replace EE := EE.go hb1
  clear hb1
  rw [← HP.out]
  have hca := EE.pa.cell 0
  have hcb := EE.pb.cell 0
  have hcr := EE.pr.cell 0
  have hfr := EE.pr.frozen 0
  cases p with
  | false =>
    have HA : Hid _ := EE.pr.set 0 (.slice none 0 0)
    have HB : Hid _ := EE.fr.setCell (p := ⟨w.heap.size + 1 + 1, 0, none⟩) (by show w.heap.size ≤ w.heap.size + 1 + 1; omega) (.slice none 0 0)
    have HE : Hid (L = []) := HL0.out rfl
    clear EE HL0 HL1 HP HQ
    simp only [List.getElem?_cons_zero] at hca hcb hcr
    go_wp2
    exact bodyPost_ret (results_row_tmp (v := .bool false) (cs := [.slice none 0 0]) rfl rfl rfl HA.out Tryd.underlying25 rfl infoFe) rfl ⟨_, rfl, HE.out ▸ feIs_nil _ _, HB.out⟩
  | true =>
    simp only [List.getElem?_cons_zero] at hca hcb hcr
    go_wp2_with fail
    clear hca hcb hcr hfr
    refine (specFeOk b m d ys _ (hy.below EE.fr)).mono ?_
    rintro e w2 ⟨rfl, hb2⟩
    replace EE := EE.go hb2
    clear hb2
    rw [← HQ.out]
    have hca := EE.pa.cell 0
    have hcb := EE.pb.cell 0
    have hcr := EE.pr.cell 0
    have hfr := EE.pr.frozen 0
    simp only [List.getElem?_cons_zero] at hca hcb hcr
    cases q with
    | false =>
      have HA : Hid _ := EE.pr.set 0 (.slice none 0 0)
      have HB : Hid _ := EE.fr.setCell (p := ⟨w.heap.size + 1 + 1, 0, none⟩) (by show w.heap.size ≤ w.heap.size + 1 + 1; omega) (.slice none 0 0)
      have HE : Hid (L = []) := HL0.out rfl
      clear EE HL0 HL1 HP HQ
      go_wp2
      exact bodyPost_ret (results_row_tmp (v := .bool false) (cs := [.slice none 0 0]) rfl rfl rfl HA.out Tryd.underlying25 rfl infoFe) rfl ⟨_, rfl, HE.out ▸ feIs_nil _ _, HB.out⟩
    | true =>
      clear hca hcb hcr hfr
      obtain ⟨xl, xm, xv⟩ := (feOk_iff xs).1 HP.out.symm
      obtain ⟨yl, ym, yv⟩ := (feOk_iff ys).1 HQ.out.symm
      obtain rfl : n = 16 := by have := hx.2.1; omega
      obtain rfl : m = 16 := by have := hy.2.1; omega
      have hLr := HL1.out HP.out.symm HQ.out.symm
      have hLl : L.length = 16 := by rw [hLr]; exact red_len _
      have hLm : Lm L := by rw [hLr]; exact red_lm _
      have HOP : Hid (∀ Z, Calls Tryd.prog 78 #[.agg (I64 xs).toArray, .agg (I64 ys).toArray] Z fun e w' => e = .returned (.agg (I64 L).toArray) ∧ Below Z.heap.size Z w') := by
        unfold Hid; intro Z; rw [hLr]; exact specSub16 xs ys Z HP.out.symm HQ.out.symm
      have HXI : Hid (∀ Z, Below w.heap.size w Z → Calls Tryd.prog 63 #[.agg #[.slice a 16 c]] Z fun e w' => e = .returned (.agg (I64 xs).toArray) ∧ Below Z.heap.size Z w') := by
        unfold Hid; intro Z hZ; exact specIn a c xs Z (hx.below hZ)
      have HYI : Hid (∀ Z, Below w.heap.size w Z → Calls Tryd.prog 63 #[.agg #[.slice b 16 d]] Z fun e w' => e = .returned (.agg (I64 ys).toArray) ∧ Below Z.heap.size Z w') := by
        unfold Hid; intro Z hZ; exact specIn b d ys Z (hy.below hZ)
      clear HL0 HL1 HP HQ hLr xl xm xv yl ym yv hx hy
      replace EE : F3 w w2.drew (.slice a 16 c) (.slice b 16 d) := EE.go (Below.refl _ _).drew
      go_wp2
      go_region_held3 (fun W => W.cell? ⟨w.heap.size, 0, none⟩ = some (.slice a 16 c) ∧ W.cell? ⟨w.heap.size + 1, 0, none⟩ = some (.slice b 16 d))
        (first
          | exact EE.two
          | exact hS5)
        ((first
          | (go_at_call_of 63 (Value.agg #[Value.slice a 16 c]); refine (HXI.out _ EE.fr).mono ?_; rintro e w3 ⟨rfl, hb3⟩; replace EE := EE.go hb3; clear hb3)
          | (go_at_call_of 63 (Value.agg #[Value.slice b 16 d]); refine (HYI.out _ EE.fr).mono ?_; rintro e w4 ⟨rfl, hb4⟩; replace EE := EE.go hb4; clear hb4)
          | (go_at_call 78; refine (HOP.out _).mono ?_; rintro e w5 ⟨rfl, hb5⟩; replace EE := EE.go hb5; clear hb5)
          | (go_at_call 61; refine (specOut L _ hLl hLm).mono ?_; rintro e w6 ⟨a', c', rfl, ho, hb6⟩; have hlt := EE.pr.lt; have hsz := EE.fr.size; replace EE := EE.go hb6; have hS5 := EE.put (.slice a' 16 c'); have HO : Hid _ := own_base (own_other' ho ⟨w.heap.size + 1 + 1, 0, none⟩ (.slice a' 16 c') hlt) hsz; have hcr : w6.cell? ⟨w.heap.size + 1 + 1, 0, none⟩ = some (.slice none 0 0) := EE.pr.cell 0; have hfr := EE.pr.frozen 0; have HA : Hid _ := EE.pr.set 0 (.slice a' 16 c'); have HB : Hid _ := EE.fr.setCell (p := ⟨w.heap.size + 1 + 1, 0, none⟩) (by show w.heap.size ≤ w.heap.size + 1 + 1; omega) (.slice a' 16 c'); clear ho hb6 hsz)))
      all_goals
        go_wp2
        exact bodyPost_ret (results_row_tmp (v := .bool true) (cs := [.slice a' 16 c']) rfl rfl rfl HA.out Tryd.underlying25 rfl infoFe) rfl ⟨_, rfl, feIs_16 hLl HO.out, HB.out⟩
set_option maxHeartbeats 2000000 in
theorem specFeMul (a : Option Addr) (n c : Nat) (xs : List Int) (b : Option Addr) (m d : Nat) (ys : List Int) (w : World) (hx : Is w a n c xs) (hy : Is w b m d ys) :
    Calls Tryd.prog 40 #[.agg #[.slice a n c], .agg #[.slice b m d]] w fun e w' => ∃ v, e = .returned (.tuple #[v, .bool (feOk xs && feOk ys)]) ∧ FeIs w w' v (fe2 (· * ·) xs ys) ∧ Below w.heap.size w w' := by
  obtain ⟨L, hL⟩ : ∃ L, L = fe2 (· * ·) xs ys := ⟨_, rfl⟩
  rw [← hL]
  have HL0 : Hid ((feOk xs && feOk ys) = false → L = []) := by unfold Hid; intro h; rw [hL]; unfold fe2; rw [h]; rfl
  have HL1 : Hid (feOk xs = true → feOk ys = true → L = red (val xs * val ys)) := by unfold Hid; intro h h'; rw [hL]; unfold fe2; rw [h, h']; rfl
  clear hL
  have EE : F3 w _ (.slice a n c) (.slice b m d) := F3.new w (.slice a n c) (.slice b m d)
  obtain ⟨W, hW⟩ : ∃ W, W = ((w.alloc (.cells #[.slice a n c] 25)).alloc (.cells #[.slice b m d] 25)).alloc (.cells #[.slice none 0 0] 25) := ⟨_, rfl⟩
  rw [← hW] at EE
  obtain ⟨p, hp⟩ : ∃ p, p = feOk xs := ⟨_, rfl⟩
  obtain ⟨q, hq⟩ : ∃ q, q = feOk ys := ⟨_, rfl⟩
  have HP : Hid _ := hp
  have HQ : Hid _ := hq
  rw [← hp, ← hq] at HL0 ⊢
  clear hp hq
  go_enter Tryd.func40, Tryd.ntmps40
  go_wp2_with fail
  rw [← hW]
  clear hW
  refine (specFeOk a n c xs _ (hx.below EE.fr)).mono ?_
  rintro e w1 ⟨rfl, hb1⟩
  replace EE := EE.go hb1
  clear hb1
  rw [← HP.out]
  have hca := EE.pa.cell 0
  have hcb := EE.pb.cell 0
  have hcr := EE.pr.cell 0
  have hfr := EE.pr.frozen 0
  cases p with
  | false =>
    have HA : Hid _ := EE.pr.set 0 (.slice none 0 0)
    have HB : Hid _ := EE.fr.setCell (p := ⟨w.heap.size + 1 + 1, 0, none⟩) (by show w.heap.size ≤ w.heap.size + 1 + 1; omega) (.slice none 0 0)
    have HE : Hid (L = []) := HL0.out rfl
    clear EE HL0 HL1 HP HQ
    simp only [List.getElem?_cons_zero] at hca hcb hcr
    go_wp2
    exact bodyPost_ret (results_row_tmp (v := .bool false) (cs := [.slice none 0 0]) rfl rfl rfl HA.out Tryd.underlying25 rfl infoFe) rfl ⟨_, rfl, HE.out ▸ feIs_nil _ _, HB.out⟩
  | true =>
    simp only [List.getElem?_cons_zero] at hca hcb hcr
    go_wp2_with fail
    clear hca hcb hcr hfr
    refine (specFeOk b m d ys _ (hy.below EE.fr)).mono ?_
    rintro e w2 ⟨rfl, hb2⟩
    replace EE := EE.go hb2
    clear hb2
    rw [← HQ.out]
    have hca := EE.pa.cell 0
    have hcb := EE.pb.cell 0
    have hcr := EE.pr.cell 0
    have hfr := EE.pr.frozen 0
    simp only [List.getElem?_cons_zero] at hca hcb hcr
    cases q with
    | false =>
      have HA : Hid _ := EE.pr.set 0 (.slice none 0 0)
      have HB : Hid _ := EE.fr.setCell (p := ⟨w.heap.size + 1 + 1, 0, none⟩) (by show w.heap.size ≤ w.heap.size + 1 + 1; omega) (.slice none 0 0)
      have HE : Hid (L = []) := HL0.out rfl
      clear EE HL0 HL1 HP HQ
      go_wp2
      exact bodyPost_ret (results_row_tmp (v := .bool false) (cs := [.slice none 0 0]) rfl rfl rfl HA.out Tryd.underlying25 rfl infoFe) rfl ⟨_, rfl, HE.out ▸ feIs_nil _ _, HB.out⟩
    | true =>
      clear hca hcb hcr hfr
      obtain ⟨xl, xm, xv⟩ := (feOk_iff xs).1 HP.out.symm
      obtain ⟨yl, ym, yv⟩ := (feOk_iff ys).1 HQ.out.symm
      obtain rfl : n = 16 := by have := hx.2.1; omega
      obtain rfl : m = 16 := by have := hy.2.1; omega
      have hLr := HL1.out HP.out.symm HQ.out.symm
      have hLl : L.length = 16 := by rw [hLr]; exact red_len _
      have hLm : Lm L := by rw [hLr]; exact red_lm _
      have HOP : Hid (∀ Z, Calls Tryd.prog 62 #[.agg (I64 xs).toArray, .agg (I64 ys).toArray] Z fun e w' => e = .returned (.agg (I64 L).toArray) ∧ Below Z.heap.size Z w') := by
        unfold Hid; intro Z; rw [hLr]; exact specMul16 xs ys Z xl yl xm ym
      have HXI : Hid (∀ Z, Below w.heap.size w Z → Calls Tryd.prog 63 #[.agg #[.slice a 16 c]] Z fun e w' => e = .returned (.agg (I64 xs).toArray) ∧ Below Z.heap.size Z w') := by
        unfold Hid; intro Z hZ; exact specIn a c xs Z (hx.below hZ)
      have HYI : Hid (∀ Z, Below w.heap.size w Z → Calls Tryd.prog 63 #[.agg #[.slice b 16 d]] Z fun e w' => e = .returned (.agg (I64 ys).toArray) ∧ Below Z.heap.size Z w') := by
        unfold Hid; intro Z hZ; exact specIn b d ys Z (hy.below hZ)
      clear HL0 HL1 HP HQ hLr xl xm xv yl ym yv hx hy
      replace EE : F3 w w2.drew (.slice a 16 c) (.slice b 16 d) := EE.go (Below.refl _ _).drew
      go_wp2
      go_region_held3 (fun W => W.cell? ⟨w.heap.size, 0, none⟩ = some (.slice a 16 c) ∧ W.cell? ⟨w.heap.size + 1, 0, none⟩ = some (.slice b 16 d))
        (first
          | exact EE.two
          | exact hS5)
        ((first
          | (go_at_call_of 63 (Value.agg #[Value.slice a 16 c]); refine (HXI.out _ EE.fr).mono ?_; rintro e w3 ⟨rfl, hb3⟩; replace EE := EE.go hb3; clear hb3)
          | (go_at_call_of 63 (Value.agg #[Value.slice b 16 d]); refine (HYI.out _ EE.fr).mono ?_; rintro e w4 ⟨rfl, hb4⟩; replace EE := EE.go hb4; clear hb4)
          | (go_at_call 62; refine (HOP.out _).mono ?_; rintro e w5 ⟨rfl, hb5⟩; replace EE := EE.go hb5; clear hb5)
          | (go_at_call 61; refine (specOut L _ hLl hLm).mono ?_; rintro e w6 ⟨a', c', rfl, ho, hb6⟩; have hlt := EE.pr.lt; have hsz := EE.fr.size; replace EE := EE.go hb6; have hS5 := EE.put (.slice a' 16 c'); have HO : Hid _ := own_base (own_other' ho ⟨w.heap.size + 1 + 1, 0, none⟩ (.slice a' 16 c') hlt) hsz; have hcr : w6.cell? ⟨w.heap.size + 1 + 1, 0, none⟩ = some (.slice none 0 0) := EE.pr.cell 0; have hfr := EE.pr.frozen 0; have HA : Hid _ := EE.pr.set 0 (.slice a' 16 c'); have HB : Hid _ := EE.fr.setCell (p := ⟨w.heap.size + 1 + 1, 0, none⟩) (by show w.heap.size ≤ w.heap.size + 1 + 1; omega) (.slice a' 16 c'); clear ho hb6 hsz)))
      all_goals
        go_wp2
        exact bodyPost_ret (results_row_tmp (v := .bool true) (cs := [.slice a' 16 c']) rfl rfl rfl HA.out Tryd.underlying25 rfl infoFe) rfl ⟨_, rfl, feIs_16 hLl HO.out, HB.out⟩
end Go.Proofs.YtpchdfdeomhakaaDoor

/-
  What is proved here: the contract of the specification's ScRead: a multiplier out of its bytes; the contract of the specification's ScBytes: the bytes of a multiplier.
-/
import Derived.Test.YtlafcjoccbinaaaDoorZS
import Derived.Test.YtlafcjoccbinaaaDoorZK
import Derived.Test.YtlafcjoccbinaaaDoorZB
import Derived.Deep.AppendLies
namespace Go.Proofs.YtlafcjoccbinaaaDoor
open Go.RowKit
set_option maxRecDepth 100000

/-- Whether the bytes are those of a number, and which. -/
def rdOkO (bs : List Int) : Bool := decide (bs.length = 32) && decide (val (rdL bs) < qO)
def rdFO (bs : List Int) : List Int := if rdOkO bs = true then rdL bs else []
/-- The result's cell alone. -/
structure S1 (w W : World) : Prop where
  fr : Below w.heap.size w W
  pr : Arr W w.heap.size 25 [.slice none 0 0]
theorem S1.go {w A B : World} (h : S1 w A) (hb : Below A.heap.size A B) : S1 w B := ⟨h.fr.trans (hb.mono h.fr.size), h.pr.kept hb⟩

set_option maxHeartbeats 2000000 in
theorem specScRead (a : Option Addr) (n c : Nat) (bs : List Int) (w : World) (hx : Bs w a n c bs) :
    Calls Tryd.prog 26 #[.slice a n c] w fun e w' => ∃ v, e = .returned (.tuple #[v, .bool (rdOkO bs)]) ∧ ScIs w w' v (rdFO bs) ∧ Below w.heap.size w w' := by
  have hl := hx.2.1
  obtain ⟨L, hL⟩ : ∃ L, L = rdFO bs := ⟨_, rfl⟩
  obtain ⟨o, ho⟩ : ∃ o, o = rdOkO bs := ⟨_, rfl⟩
  rw [← hL, ← ho]
  have HO : Hid _ := ho
  have HLL : Hid (L = if o = true then rdL bs else []) := by unfold Hid; rw [hL, ho]; rfl
  clear hL ho
  have EE : S1 w (w.alloc (.cells #[.slice none 0 0] 25)) := ⟨(Below.refl _ _).alloc (Nat.le_refl _) _, Arr.new _ _ _⟩
  obtain ⟨W, hW⟩ : ∃ W, W = w.alloc (.cells #[.slice none 0 0] 25) := ⟨_, rfl⟩
  by_cases hn : n = 32
  rotate_left
  · have HE : Hid (o = false ∧ L = []) := by
      have h1 : o = false := by rw [HO.out]; unfold rdOkO; simp [show ¬ bs.length = 32 by omega]
      exact ⟨h1, by rw [HLL.out, h1]; rfl⟩
    have hn' : ((n : Int) != 32) = true := by simp; omega
    have hn'' : ¬ ((n : Int) = 32) := by omega
    have HA : Hid _ := EE.pr
    have HB : Hid _ := EE.fr
    clear EE HO HLL hW hx hl
    go_enter Tryd.func26, Tryd.ntmps26
    go_wp2
    exact bodyPost_ret (results_row_tmp (v := .bool false) (cs := [.slice none 0 0]) rfl rfl rfl HA.out Tryd.underlying25 rfl infoSc) rfl ⟨_, by rw [HE.out.1], HE.out.2 ▸ scIs_nil _ _, HB.out⟩
  subst hn
  have hRl := rdL_len bs
  have hRm := rdL_lm hx.2.2.2.1
  rw [← hW] at EE
  go_enter Tryd.func26, Tryd.ntmps26
  go_wp2_with fail
  rw [← hW]
  clear hW
  refine (specRead16 a c bs _ (hx.below EE.fr)).mono ?_
  rintro e w1 ⟨rfl, hb1⟩
  replace EE := EE.go hb1
  clear hb1
  go_wp2_with fail
  refine (specOrder _).mono ?_
  rintro e w2 ⟨rfl, hb2⟩
  replace EE := EE.go hb2
  clear hb2
  go_wp2_with fail
  refine (specLess (rdL bs) OL _ hRl OL_len hRm OL_lm).mono ?_
  rintro e w3 ⟨rfl, hb3⟩
  replace EE := EE.go hb3
  clear hb3
  have hoz : o = decide (val (rdL bs) < val OL) := by rw [HO.out, OL_val]; unfold rdOkO; simp [hl]
  obtain ⟨z, hz⟩ : ∃ z, z = decide (val (rdL bs) < val OL) := ⟨_, rfl⟩
  rw [← hz] at hoz ⊢
  subst hoz
  clear hz HO
  have hcr : w3.cell? ⟨w.heap.size, 0, none⟩ = some (.slice none 0 0) := EE.pr.cell 0
  have hfr := EE.pr.frozen 0
  cases o with
  | false =>
    have HA : Hid _ := EE.pr.set 0 (.slice none 0 0)
    have HB : Hid _ := EE.fr.setCell (p := ⟨w.heap.size, 0, none⟩) (Nat.le_refl _) (.slice none 0 0)
    have HE : Hid (L = []) := HLL.out
    clear EE HLL
    go_wp2
    exact bodyPost_ret (results_row_tmp (v := .bool false) (cs := [.slice none 0 0]) rfl rfl rfl HA.out Tryd.underlying25 rfl infoSc) rfl ⟨_, rfl, HE.out ▸ scIs_nil _ _, HB.out⟩
  | true =>
    have HE : Hid (L = rdL bs) := HLL.out
    clear HLL hcr hfr
    have hLl : L.length = 16 := by rw [HE.out]; exact hRl
    have hLm : Lm L := by rw [HE.out]; exact hRm
    go_wp2_with fail
    refine (specRead16 a c bs _ (hx.below EE.fr)).mono ?_
    rintro e w4 ⟨rfl, hb4⟩
    replace EE := EE.go hb4
    clear hb4
    rw [← HE.out]
    go_wp2_with fail
    refine (specScOut L _ hLl hLm).mono ?_
    rintro e w6 ⟨a', c', rfl, ho, hb6⟩
    have hlt := EE.pr.lt
    have hsz := EE.fr.size
    replace EE := EE.go hb6
    have HOW : Hid _ := own_base (own_other' ho ⟨w.heap.size, 0, none⟩ (.slice a' 16 c') hlt) hsz
    have hcr : w6.cell? ⟨w.heap.size, 0, none⟩ = some (.slice none 0 0) := EE.pr.cell 0
    have hfr := EE.pr.frozen 0
    have HA : Hid _ := EE.pr.set 0 (.slice a' 16 c')
    have HB : Hid _ := EE.fr.setCell (p := ⟨w.heap.size, 0, none⟩) (Nat.le_refl _) (.slice a' 16 c')
    clear EE ho hb6 hsz hlt
    go_wp2
    exact bodyPost_ret (results_row_tmp (v := .bool true) (cs := [.slice a' 16 c']) rfl rfl rfl HA.out Tryd.underlying25 rfl infoSc) rfl ⟨_, rfl, scIs_16 hLl HOW.out, HB.out⟩
end Go.Proofs.YtlafcjoccbinaaaDoor
namespace Go.Proofs.YtlafcjoccbinaaaDoor
open Go.RowKit
set_option maxRecDepth 100000

/-- The bytes of a number; none of what is no number. -/
def btFO (xs : List Int) : List Int := if scOk xs = true then btL xs else []

set_option maxHeartbeats 1000000 in
theorem specScBytes (a : Option Addr) (n c : Nat) (xs : List Int) (w : World) (hx : Is w a n c xs) :
    Calls Tryd.prog 35 #[.agg #[.slice a n c]] w fun e w' => ∃ v, e = .returned v ∧ w'.ownsRow w.heap.size 5 1 v (btFO xs).length (U8 (btFO xs)) ∧ Below w.heap.size w w' := by
  obtain ⟨W, hW⟩ : ∃ W, W = w.alloc (.cells #[.slice a n c] 25) := ⟨_, rfl⟩
  have g0 : Arr W w.heap.size 25 [.slice a n c] := by rw [hW]; exact Arr.new _ _ _
  have gB : Below w.heap.size w W := by rw [hW]; exact (Below.refl _ _).alloc (Nat.le_refl _) _
  obtain ⟨p, hp⟩ : ∃ p, p = scOk xs := ⟨_, rfl⟩
  obtain ⟨L, hL⟩ : ∃ L, L = btFO xs := ⟨_, rfl⟩
  have HL : Hid (L = if p = true then btL xs else []) := by unfold Hid; rw [hL, hp]; rfl
  rw [← hL]
  have HP : Hid _ := hp
  clear hp hL
  go_enter Tryd.func35, Tryd.ntmps35
  go_wp2_with fail
  rw [← hW]
  clear hW
  refine (specScOk a n c xs _ (hx.below gB)).mono ?_
  rintro e w1 ⟨rfl, hb1⟩
  have g1 := g0.kept hb1
  have gB1 := gB.trans (hb1.mono gB.size)
  clear g0 gB hb1
  rw [← HP.out]
  have hca : w1.cell? ⟨w.heap.size, 0, none⟩ = some (.slice a n c) := g1.cell 0
  cases p with
  | false =>
    have HE : Hid (L = []) := HL.out
    clear HL g1
    go_wp2
    go_ret
    exact ⟨_, rfl, by rw [HE.out]; exact World.ownsRow_nil _ _ _ _, gB1⟩
  | true =>
    obtain ⟨xl, xm, xv⟩ := (scOk_iff xs).1 HP.out.symm
    obtain rfl : n = 16 := by have := hx.2.1; omega
    have HE : Hid (L = btL xs) := HL.out
    clear HL
    go_wp2_with fail
    refine (specScIn a c xs _ (hx.below gB1)).mono ?_
    rintro e w2 ⟨rfl, hb2⟩
    have gB2 := gB1.trans (hb2.mono gB1.size)
    clear hb2 hca g1 gB1
    go_wp2_with fail
    refine (specBytes16 xs _ xl xm).mono ?_
    rintro e w3 ⟨v, rfl, ho, hb3⟩
    have HO : Hid (w3.ownsRow w.heap.size 5 1 v L.length (U8 L)) := by
      unfold Hid
      rw [HE.out, btL_len, xl]
      exact own_base ho gB2.size
    have gB3 := gB2.trans (hb3.mono gB2.size)
    clear ho hb3 gB2
    go_wp2
    go_ret
    exact ⟨_, rfl, HO.out, gB3⟩
end Go.Proofs.YtlafcjoccbinaaaDoor

/-
  What is proved here: the exact law of ShaNew returns true, and writes into nothing that was there; where the program's table of first words holds what its text lays into it.
-/
import Derived.Test.YtgapfkiceolceaaDoorMk
import Derived.Test.YtgapfkiceolceaaDoorNw
namespace Go.Proofs.YtgapfkiceolceaaDoor
set_option maxRecDepth 100000
open Go.RowKit

structure SN (w W : World) (P1 P2 : Nat) (a0 : Option Addr) (c0 : Nat) (ag : Option Addr) (cg : Nat) (lg : List Int) : Prop where
  fr : Below w.heap.size w W
  p1 : Arr W P1 27 [.slice a0 8 c0, .int .i64 0, .slice none 0 0]
  p2 : Arr W P2 27 [.slice ag 8 cg, .int .i64 0, .slice none 0 0]
  o0 : W.ownsRow w.heap.size 3 1 (.slice a0 8 c0) 8 (I64 H0)
  og : W.ownsRow w.heap.size 3 1 (.slice ag 8 cg) 8 (I64 lg)
  d0 : Apart (.slice ag 8 cg) (.slice a0 8 c0)
  n1 : Value.ownBlock (.slice ag 8 cg) ≠ some P1
  n2 : Value.ownBlock (.slice ag 8 cg) ≠ some P2

theorem SN.below {w W W' : World} {P1 P2 : Nat} {a0 : Option Addr} {c0 : Nat} {ag : Option Addr} {cg : Nat} {lg : List Int} (h : SN w W P1 P2 a0 c0 ag cg lg) (hb : Below W.heap.size W W') : SN w W' P1 P2 a0 c0 ag cg lg :=
  ⟨h.fr.trans (hb.mono h.fr.size), h.p1.kept hb, h.p2.kept hb, own_below h.o0 hb, own_below h.og hb, h.d0, h.n1, h.n2⟩
theorem SN.mark {w W W' : World} {P1 P2 : Nat} {a0 : Option Addr} {c0 : Nat} {ag : Option Addr} {cg : Nat} {lg lg' : List Int} (h : SN w W P1 P2 a0 c0 ag cg lg) (ho : W'.ownsRow w.heap.size 3 1 (.slice ag 8 cg) 8 (I64 lg')) (hg : Gr2 W W' (Value.ownBlock (.slice ag 8 cg)) (Value.ownBlock (.slice none 0 0))) : SN w W' P1 P2 a0 c0 ag cg lg' :=
  ⟨hg.below h.fr (fun k hk => (h.og.lt k hk).1) (fun k hk => by cases hk), hg.arr h.p1 h.n1 (by simp [Value.ownBlock]), hg.arr h.p2 h.n2 (by simp [Value.ownBlock]), hg.own h.o0 h.d0 (fun k hk => by cases hk), ho, h.d0, h.n1, h.n2⟩
theorem SN.cells {w W : World} {P1 P2 : Nat} {a0 : Option Addr} {c0 : Nat} {ag : Option Addr} {cg : Nat} {lg : List Int} (h : SN w W P1 P2 a0 c0 ag cg lg) :
    W.cell? ⟨P1, 0, none⟩ = some (.slice a0 8 c0) ∧ W.cell? ⟨P1, 1, none⟩ = some (.int .i64 0) ∧ W.cell? ⟨P1, 2, none⟩ = some (.slice none 0 0) ∧ W.cell? ⟨P2, 0, none⟩ = some (.slice ag 8 cg) ∧ W.cell? ⟨P2, 1, none⟩ = some (.int .i64 0) ∧ W.cell? ⟨P2, 2, none⟩ = some (.slice none 0 0) :=
  c33_of h.p1 h.p2

theorem bs_nil (W : World) : Bs W none 0 0 [] := ⟨fun _ => rfl, rfl, Nat.le_refl _, by simp, .inl rfl⟩
theorem apart_nil (u : Value) : Apart u (.slice none 0 0) := fun k _ he => by cases he

set_option maxHeartbeats 1000000 in
theorem walk_fnExactShaNew (w : World) (hf : TabF w) :
    Calls Tryd.prog 6 #[] w fun e w' => e = .returned (.bool true) ∧ Below w.heap.size w w' := by
  have hH := words_int H0_words
  have HH : Hid _ := hH
  clear hH
  go_enter Tryd.func6, Tryd.ntmps6
  go_wp2_with fail
  refine (specShaNew _).mono ?_
  rintro e w1 ⟨a0, c0, rfl, o1, b1⟩
  have B1 : Below w.heap.size w (w1.alloc (.cells #[.slice a0 8 c0, .int .i64 0, .slice none 0 0] 27)) := b1.alloc b1.size _
  have A1 : Arr (w1.alloc (.cells #[.slice a0 8 c0, .int .i64 0, .slice none 0 0] 27)) w1.heap.size 27 [.slice a0 8 c0, .int .i64 0, .slice none 0 0] := Arr.new _ _ _
  have O1 := o1.alloc (.cells #[.slice a0 8 c0, .int .i64 0, .slice none 0 0] 27)
  have HB1 : Hid _ := B1
  have HA1 : Hid _ := A1
  clear o1 b1 B1 A1
  go_wp2_with fail
  refine (implShaNew _ (hf.below HB1.out)).mono ?_
  rintro e w2 ⟨ag, cg, rfl, o2, b2⟩
  have S2 : SN w (w2.alloc (.cells #[.slice ag 8 cg, .int .i64 0, .slice none 0 0] 27)) w1.heap.size w2.heap.size a0 c0 ag cg H0 :=
    ⟨(HB1.out.trans (b2.mono HB1.out.size)).alloc (Nat.le_trans HB1.out.size b2.size) _, (Arr.kept HA1.out b2).alloc _, Arr.new _ _ _, (own_below O1 b2).alloc _, (own_base o2 HB1.out.size).alloc _, (apart_of O1 o2 (Nat.le_refl _)).symm,
      fun he => by have := (o2.lt _ he).1; simp at this; omega, fun he => by have := (o2.lt _ he).2; omega⟩
  clear HB1 HA1 o2 b2 O1
  have hne := (Arr.kept S2.p1 (Below.refl _ _)).lt
  obtain ⟨W2, hW2⟩ : ∃ W2, W2 = w2.alloc (.cells #[.slice ag 8 cg, .int .i64 0, .slice none 0 0] 27) := ⟨_, rfl⟩
  obtain ⟨P1, hP1⟩ : ∃ P1, P1 = w1.heap.size := ⟨_, rfl⟩
  obtain ⟨P2, hP2⟩ : ∃ P2, P2 = w2.heap.size := ⟨_, rfl⟩
  rw [← hW2, ← hP1, ← hP2] at S2
  have q2 := S2.cells
  rw [hW2, hP1, hP2] at q2
  go_wp2_with fail
  rw [← hW2]
  clear q2 hne
  refine (eqShaC ag 8 cg 0 none 0 0 a0 c0 none 0 H0 [] _ (is_of_own S2.og HH.out) (bs_nil _) (is_of_own S2.o0 HH.out) (bs_nil _) (by omega) (by omega)).mono ?_
  rintro e w3 ⟨rfl, b3⟩
  have S3 := S2.below b3
  have q3 := S3.cells
  clear S2 b3 hW2
  rw [← hP1, ← hP2]
  clear hP1 hP2
  go_wp2_with fail
  refine (markShaC w.heap.size ag 8 cg 0 none 0 0 H0 [] 1 _ S3.og (World.ownsRow_nil _ _ _ _) (apart_nil _) (by omega) (by omega) (by omega) (by omega)).mono ?_
  rintro e w4 ⟨rfl, o4, _, g4⟩
  have S4' := S3.mark o4 g4
  have q4 := S4'.cells
  clear S3 q3 o4 g4
  have HM := marksI_int 1 8 (by omega) (by omega) (by omega)
  have HMI : Hid _ := HM
  clear HM
  have h9 : ((1 : Int) + ((8 : Nat) : Int) + ((0 : Nat) : Int)) = 9 := rfl
  go_wp2_with fail
  refine (heldShaC ag 8 cg 0 none 0 0 1 _ (is_of_own S4'.og HMI.out) (bs_nil _) (by omega) (by omega) (by omega) (by omega)).mono ?_
  rintro e w5 ⟨rfl, b5⟩
  have S5 := S4'.below b5
  clear S4' q4 b5
  go_wp2_with fail
  refine (implShaNew _ (hf.below S5.fr)).mono ?_
  rintro e w6 ⟨ah, ch, rfl, o6, b6⟩
  have S6 := (S5.below b6).below ((Below.refl _ _).alloc (Nat.le_refl _) (.cells #[.slice ah 8 ch, .int .i64 0, .slice none 0 0] 27))
  have o6' := o6.alloc (.cells #[.slice ah 8 ch, .int .i64 0, .slice none 0 0] 27)
  have l1 := (S5.below b6).p1.lt
  have q6 := (S5.below b6).cells
  clear S5 b6 o6
  go_wp2_with fail
  refine (eqShaC ah 8 ch 0 none 0 0 a0 c0 none 0 H0 [] _ (is_of_own o6' HH.out) (bs_nil _) (is_of_own S6.o0 HH.out) (bs_nil _) (by omega) (by omega)).mono ?_
  rintro e w7 ⟨rfl, b7⟩
  have S7 := S6.below b7
  have q7 := S7.cells
  clear S6 b7 o6' q6
  go_wp2_with fail
  refine (heldShaC ag 8 cg 0 none 0 0 1 _ (is_of_own S7.og HMI.out) (bs_nil _) (by omega) (by omega) (by omega) (by omega)).mono ?_
  rintro e w8 ⟨rfl, b8⟩
  have fr := (S7.below b8).fr
  clear S7 b8 q7
  go_wp2
  go_ret
  exact ⟨rfl, fr⟩
end Go.Proofs.YtgapfkiceolceaaDoor

/-
  What is proved here: the contracts of the program's ScOk, ScBytes and ScRead; where the program's variable holds the order; contracts of the library's slices.Grow (at the nil slice), slices.Concat (at two slices), over ints, for slices of at most 2^21 ints; bytes of parts and back; an answer that is read.
-/
import Derived.Test.YtihoaakbkffejaaGreatDoorSQd
import Derived.Test.YtihoaakbkffejaaGreatDoorSOhm
import Derived.Test.YtihoaakbkffejaaGreatDoorSQhr
import Derived.Test.YtihoaakbkffejaaGreatDoorSJg
import Derived.Test.YtihoaakbkffejaaGreatDoorSOm0
import Derived.Test.YtihoaakbkffejaaGreatDoorSYc
import Derived.Lib.AppendZerosOnto
import Derived.WalkSpells
import Derived.Test.YtihoaakbkffejaaGreatDoorSFm
import Derived.Test.YtihoaakbkffejaaGreatDoorSFyq
namespace Go.Proofs.YtihoaakbkffejaaGreatDoor
open Go.RowKit
set_option maxRecDepth 100000
set_option maxHeartbeats 1000000 in
theorem implScBytes (a : Option Addr) (n c : Nat) (xs : List Int) (w : World) (hx : Is w a n c xs) (hV : Vr w 6 (I64 OL)) :
    Calls Tryz.prog 40 #[.agg #[.slice a n c]] w fun e w' => ∃ v, e = .returned v ∧ w'.ownsRow w.heap.size 5 1 v (btFO xs).length (U8 (btFO xs)) ∧ Below w.heap.size w w' := by
  obtain ⟨W, hW⟩ : ∃ W, W = w.alloc (.cells #[.slice a n c] 41) := ⟨_, rfl⟩
  have gB : Below w.heap.size w W := by rw [hW]; exact (Below.refl _ _).alloc (Nat.le_refl _) _
  have HO := implLimbsOf a n c xs W (hx.below gB)
  have HM : Hid (∀ Z, Vr Z 6 (I64 OL) → Calls Tryz.prog 58 #[.agg (I64 (lmL xs)).toArray, .bool (lmOk xs)] Z fun e w' => e = .returned (.tuple #[.agg (I64 (scL xs)).toArray, .bool (scOk xs)]) ∧ Below Z.heap.size Z w') := by
    unfold Hid; intro Z hZ; exact implMuSc xs Z hZ
  have hSl := scL_len xs
  have gV := hV.kept gB
  obtain ⟨o, ho⟩ : ∃ o, o = scOk xs := ⟨_, rfl⟩
  obtain ⟨T, hT⟩ : ∃ T, T = btFO xs := ⟨_, rfl⟩
  have HT0 : Hid (o = false → T = []) := by unfold Hid; intro h; rw [hT]; unfold btFO; rw [← ho, h]; rfl
  have HT1 : Hid (o = true → ∀ Z : World, Calls Tryz.prog 43 #[.agg (I64 (scL xs)).toArray] Z fun e w' => ∃ v, e = .returned v ∧ w'.ownsRow Z.heap.size 5 1 v T.length (U8 T) ∧ Below Z.heap.size Z w') := by
    unfold Hid; intro h Z
    have h' : scOk xs = true := by rw [← ho]; exact h
    have e1 : scL xs = xs := by unfold scL; rw [if_pos h']
    obtain ⟨h2, h3, _⟩ := (scOk_iff xs).1 h'
    have e2 : T = btL xs := by rw [hT]; unfold btFO; rw [if_pos h']
    rw [e1, e2, show (btL xs).length = 32 by rw [btL_len, h2]]
    refine (implBytes xs Z h2 h3).mono ?_
    exact fun e w' h => h
  obtain ⟨L, hL⟩ : ∃ L, L = lmL xs := ⟨_, rfl⟩
  obtain ⟨p, hp⟩ : ∃ p, p = lmOk xs := ⟨_, rfl⟩
  obtain ⟨S, hS⟩ : ∃ S, S = scL xs := ⟨_, rfl⟩
  rw [← hL, ← hp] at HO HM
  rw [← hS] at HM hSl HT1
  rw [← ho] at HM
  rw [← hT]
  have HO' : Hid (Calls Tryz.prog 64 #[.slice a n c] W fun e w' => e = .returned (.tuple #[.agg (I64 L).toArray, .bool p]) ∧ Below W.heap.size W w') := HO
  have his : (Tryz.prog.info? 92).map (·.size) = some (I64 S).toArray.size := by simpa [hSl] using infoM
  have hisl : (Tryz.prog.info? 65).map (·.size) = some (I64 S).toArray.size := by simpa [hSl] using infoL
  clear HO hL hp hS hx hV ho hT
  go_enter Tryz.func40, Tryz.ntmps40
  go_wp2_with fail
  rw [← hW]
  refine HO'.out.mono ?_
  rintro e w1 ⟨rfl, hb1⟩
  have gB1 := gB.trans (hb1.mono gB.size)
  have gV1 := gV.kept hb1
  clear hW gB gV hb1 HO'
  go_wp2_with fail
  refine (HM.out _ gV1).mono ?_
  rintro e w2 ⟨rfl, hb2⟩
  have gB2 := gB1.trans (hb2.mono gB1.size)
  obtain ⟨bV, pV, q1⟩ := laid_mu w2 S
  have gB3 := gB2.trans (bV.mono gB2.size)
  clear gB1 gV1 hb2 gB2 bV HM
  cases o with
  | false =>
    have HE : Hid (T = []) := HT0.out rfl
    have HB : Hid _ := gB3
    clear HT0 HT1 gB3 pV
    go_wp2_with (refine wpList_store_row rfl 92 _ _ rfl w2.heap.size (I64 S).toArray rfl rfl 92 _ q1 his (by simp [hSl]) (by simp [Value.oneCell']) ?_)
    go_ret
    exact ⟨_, rfl, HE.out ▸ World.ownsRow_nil _ _ _ _, HB.out⟩
  | true =>
    have HY : Hid (∀ Z : World, Calls Tryz.prog 43 #[.agg (I64 S).toArray] Z fun e w' => ∃ v, e = .returned v ∧ w'.ownsRow Z.heap.size 5 1 v T.length (U8 T) ∧ Below Z.heap.size Z w') := HT1.out rfl
    clear HT0 HT1
    go_wp2_with (first
      | (refine wpList_store_row rfl 92 _ _ rfl w2.heap.size (I64 S).toArray rfl rfl 92 _ q1 his (by simp [hSl]) (by simp [Value.oneCell']) ?_)
      | (refine wpList_load_row rfl 65 _ rfl w2.heap.size rfl 92 (I64 S).toArray (0, 0) _ pV Tryz.underlying65 rfl hisl ?_))
    refine (HY.out _).mono ?_
    rintro e w3 ⟨v, rfl, ho3, hb3⟩
    have HOW : Hid _ := own_base ho3 gB3.size
    have HB : Hid _ := gB3.trans (hb3.mono gB3.size)
    clear gB3 pV q1 ho3 hb3 HY
    go_wp2
    go_ret
    exact ⟨_, rfl, HOW.out, HB.out⟩

end Go.Proofs.YtihoaakbkffejaaGreatDoor
namespace Go.Proofs.YtihoaakbkffejaaGreatDoor
open Go.RowKit

set_option maxRecDepth 100000
set_option maxHeartbeats 400000 in
theorem growNilI (n : Nat) (w : World) (hn : n ≤ 8388608) :
    Calls Tryz.prog 106 #[.slice none 0 0, .int .i64 n] w fun e w' => ∃ v, e = .returned v ∧ w'.ownsRow w.heap.size 3 1 v 0 (I64 []) ∧ Below w.heap.size w w' := by
  obtain ⟨i0, hi, hz0, hz1, hz2⟩ := info_parts Tryz.info3
  by_cases h0 : n = 0
  · subst h0
    go_enter Tryz.func106, Tryz.ntmps106
    go_wp2
    go_ret
    exact ⟨_, rfl, World.ownsRow_nil _ _ _ _, Below.refl _ _⟩
  · have hpos : (0 : Int) < (n : Int) := by omega
    have hrun : ∀ ty, (Builtin.append_ #[29, 3] ty #[.slice none 0 0, .int .i64 (n : Int)]).run Tryz.prog w =
        .ok (.slice (some ⟨w.heap.size, 0, none⟩) n (grownCap w n 0 3)) (w.drew.alloc (.cells (#[] ++ Builtin.zeroCells (Value.int .i64 0).cells n ++ Builtin.zeroCells (Value.int .i64 0).cells (grownCap w n 0 3 - n)) 3)) := fun ty => by
      have h := Lib.run_append_grow_zeros w 29 3 ty 3 i0 (.int .i64 0) .i64 .i64 Tryz.underlying29 Tryz.underlying3 hi hz0 none 0 0 [] (run_firstCells_none w.drew i0.size 0 0 0) n (by omega) (by omega) (by omega) (by omega) (by rw [hz2]; omega)
        (by rw [hz2]; exact growslice_fits (by omega) (by omega))
      simpa using h
    have hGn : n ≤ grownCap w n 0 3 := grownCap_ge w _ _ _
    have hGm : grownCap w n 0 3 ≤ maxLen := grownCap_le_maxLen w n 0 3 (by unfold maxLen; omega)
    obtain ⟨G, hG⟩ : ∃ G, G = grownCap w n 0 3 := ⟨_, rfl⟩
    rw [← hG] at hrun hGn hGm
    clear hG hi hz0 hz1 hz2
    obtain ⟨C, hC⟩ : ∃ C, C = (#[] ++ Builtin.zeroCells (Value.int .i64 0).cells n ++ Builtin.zeroCells (Value.int .i64 0).cells (G - n)) := ⟨_, rfl⟩
    rw [← hC] at hrun
    have hCs : C.size = G * 1 := by rw [hC]; simp [size_zeroCells, Value.cells]; omega
    have HC : Hid (C.size = G * 1) := hCs
    clear hC hCs
    have hGm' := hGm
    unfold maxLen at hGm
    go_enter Tryz.func106, Tryz.ntmps106
    go_wp2_with (at_builtin; refine Lib.wpList_append_run _ rfl _ _ _ _ rfl _ _ rfl rfl _ _ (hrun _) ?_)
    go_ret
    exact ⟨.slice (some ⟨w.heap.size, 0, none⟩) 0 G, rfl, (World.ownsRow_made (base := w.heap.size) (e := 3) (size := 1) w C G (Nat.le_refl _) hGm' HC.out).drew, ((Below.refl _ _).alloc (Nat.le_refl _) _).drew⟩

set_option maxHeartbeats 1000000 in
theorem concat2I (g : Nat) (a a' : Option Addr) (n c n' c' : Nat) (xs ys : List Int) (w : World) (hg : g < w.heap.size)
    (h0 : w.cell? ⟨g, 0, none⟩ = some (.slice a n c)) (h1 : w.cell? ⟨g, 1, none⟩ = some (.slice a' n' c')) (h : Is w a n c xs) (h' : Is w a' n' c' ys) (hn : n ≤ 2098176) (hn' : n' ≤ 2098176) :
    Calls Tryz.prog 61 #[.slice (some ⟨g, 0, none⟩) 2 2] w fun e w' => ∃ v, e = .returned v ∧ w'.ownsRow w.heap.size 3 1 v (n + n') (I64 (xs ++ ys)) ∧ Below w.heap.size w w' := by
  go_enter Tryz.func61, Tryz.ntmps61
  go_wp2
  refine wp_loop_rounds 3 ?_
  rw [rounds_succ]
  go_wp2
  rw [rounds_succ]
  go_wp2
  rw [rounds_succ]
  go_wp2_with fail
  have eN : ((n : Int) + (n' : Int)) = ((n + n' : Nat) : Int) := by omega
  rw [eN]
  refine (growNilI (n + n') w (by omega)).mono ?_
  rintro e w1 ⟨v1, rfl, hown1, b1⟩
  have q0 : w1.cell? ⟨g, 0, none⟩ = some (.slice a n c) := (b1.cell (p := ⟨g, 0, none⟩) hg).trans h0
  have q1 : w1.cell? ⟨g, 1, none⟩ = some (.slice a' n' c') := (b1.cell (p := ⟨g, 1, none⟩) hg).trans h1
  have s1 := b1.size
  have hx1 := h.below b1
  clear h0 h1 eN
  go_wp2
  refine wp_loop_rounds 3 ?_
  rw [rounds_succ]
  go_wp2_with (at_builtin; refine wpl_append_is rfl _ _ rfl w.heap.size _ 0 [] rfl a n c xs rfl hown1 hx1 ?_ ?_ ?_)
  · omega
  · omega
  intro v2 w2 hown2 hgr2 _
  have b2 : Below w.heap.size w w2 := below_appI0 b1 s1 hown1 hgr2
  have q1' : w2.cell? ⟨g, 1, none⟩ = some (.slice a' n' c') := (b2.cell (p := ⟨g, 1, none⟩) hg).trans ((b1.cell (p := ⟨g, 1, none⟩) hg).symm.trans q1)
  have s2 := b2.size
  have hy2 := h'.below b2
  clear hgr2 hown1 b1 q0 q1 s1 hx1 h h'
  go_wp2
  rw [rounds_succ]
  go_wp2_with (at_builtin; refine wpl_append_is rfl _ _ rfl w.heap.size _ n xs rfl a' n' c' ys rfl hown2 hy2 ?_ ?_ ?_)
  · omega
  · omega
  intro v3 w3 hown3 hgr3 _
  have b3 : Below w.heap.size w w3 := below_appI0 b2 s2 hown2 hgr3
  clear hgr3 hown2 b2 q1' s2 hy2
  go_wp2
  rw [rounds_succ]
  go_wp2
  go_ret
  exact ⟨v3, rfl, by simpa using hown3, b3⟩

end Go.Proofs.YtihoaakbkffejaaGreatDoor
namespace Go.Proofs.YtihoaakbkffejaaGreatDoor
open Go.RowKit
set_option maxRecDepth 100000

theorem ext16 {a b : List Int} (ha : a.length = 16) (hb : b.length = 16) (h : ∀ i, i < 16 → a.getD i 0 = b.getD i 0) : a = b := by
  apply List.ext_getElem (by omega)
  intro i h1 h2
  have := h i (by omega)
  simpa [List.getD, h1, h2] using this
theorem rd_bt {l : List Int} (hl : l.length = 16) : rdL (btL l) = l := by
  apply ext16 (rdL_len _) hl
  intro i hi
  have := btL_get l i (by omega)
  rw [rdL_get _ _ hi, this.1, this.2]
  omega
theorem ext32 {a b : List Int} {n : Nat} (ha : a.length = n) (hb : b.length = n) (h : ∀ i, i < n → a.getD i 0 = b.getD i 0) : a = b := by
  apply List.ext_getElem (by omega)
  intro i h1 h2
  have := h i (by omega)
  simpa [List.getD, h1, h2] using this
theorem bt_rd {bs : List Int} (hl : bs.length = 32) (hb : ∀ x ∈ bs, 0 ≤ x ∧ x < 256) : btL (rdL bs) = bs := by
  apply ext32 (n := 32) (by rw [btL_len, rdL_len]) hl
  intro i hi
  have h1 := btL_get (rdL bs) (i / 2) (by rw [rdL_len]; omega)
  rw [rdL_get _ _ (by omega)] at h1
  have g1 := gD_u8 hb (2 * (i / 2))
  have g2 := gD_u8 hb (2 * (i / 2) + 1)
  by_cases hp : i % 2 = 0
  · have e : 2 * (i / 2) = i := by omega
    rw [e] at h1 g1
    rw [h1.1]
    rw [e] at g2
    omega
  · have e : 2 * (i / 2) + 1 = i := by omega
    rw [e] at h1 g2
    rw [h1.2]
    omega
end Go.Proofs.YtihoaakbkffejaaGreatDoor

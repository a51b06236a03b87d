/-
  What is proved here: the law FnKeys returns true at every code, and writes into nothing that was there.
-/
import Derived.Test.YtofflhhlacdgfaaDoorKf2
import Derived.Test.YtofflhhlacdgfaaDoorK2
import Derived.Test.YtofflhhlacdgfaaDoorK1
import Derived.Test.YtofflhhlacdgfaaDoorHh
import Derived.Test.YtofflhhlacdgfaaDoorSm
namespace Go.Proofs.YtofflhhlacdgfaaDoor
open Go.RowKit
set_option maxRecDepth 100000
set_option maxHeartbeats 8000000
set_option linter.unusedVariables false

theorem ks_asc {ks : List KeyM} (h : ksOk ks) : ∀ j, j < ks.length → ∀ i, i < j → (ks.getD i kz).i < (ks.getD j kz).i
  | 0, _, i, hi => absurd hi (Nat.not_lt_zero _)
  | j + 1, hj, i, hi => by
    have h1 := (h.2 (j + 1) hj).2 (by omega)
    rw [Nat.add_sub_cancel] at h1
    by_cases e : i = j
    · subst e; exact h1
    · have := ks_asc h j (by omega) i (by omega)
      omega
theorem kf_first {ks : List KeyM} {id : Int} {i : Nat} (h : kOk ks = true) (hi : i < ks.length) (he : (ks.getD i kz).i = id) :
    kfB ks id = ((ks.getD i kz).r == 2 && !(ks.getD i kz).v) ∧ (kfB ks id = true → kfL ks id = (ks.getD i kz).p) := by
  have hs := (kOk_iff ks).1 h
  have hne : ∀ j, j < ks.length → j ≠ i → (ks.getD j kz).i ≠ id := fun j hj hji => by
    by_cases e : j < i
    · have := ks_asc hs i hi j e; omega
    · have := ks_asc hs j hj i (by omega); omega
  have hm : ∀ j, j < ks.length → j ≠ i → kMay id (ks.getD j kz) = false := fun j hj hji => by
    show ((ks.getD j kz).i == id && _) = false
    rw [beq_eq_false_iff_ne.2 (hne j hj hji)]
    rfl
  have hmi : kMay id (ks.getD i kz) = ((ks.getD i kz).r == 2 && !(ks.getD i kz).v) := by unfold kMay; rw [he]; simp
  cases e : ((ks.getD i kz).r == 2 && !(ks.getD i kz).v) with
  | true =>
    have hk := kf_at ks id i hi (hmi.trans e) (fun j hj => hm j (by omega) (by omega))
    have hK : kfK ks id = some (ks.getD i kz) := by unfold kfK; rw [h]; exact hk
    refine ⟨by unfold kfB; rw [hK]; rfl, fun _ => by unfold kfL; rw [hK]; rfl⟩
  | false =>
    have hk := kf_no ks id (fun j hj => by
      by_cases hji : j = i
      · subst hji; exact hmi.trans e
      · exact hm j hj hji)
    have hK : kfK ks id = none := by unfold kfK; rw [h]; exact hk
    have hB : kfB ks id = false := by unfold kfB; rw [hK]; rfl
    exact ⟨hB, fun g => by rw [hB] at g; cases g⟩
theorem kf_out {ks : List KeyM} {id : Int} (h : kOk ks = true) (hne : ∀ j, j < ks.length → (ks.getD j kz).i ≠ id) : kfB ks id = false := by
  have hk := kf_no ks id (fun j hj => by show ((ks.getD j kz).i == id && _) = false; rw [beq_eq_false_iff_ne.2 (hne j hj)]; rfl)
  unfold kfB kfK
  rw [h]
  show (kf ks id).isSome = false
  rw [hk]
  rfl
theorem kf_not {ks : List KeyM} {id : Int} (h : kOk ks = false) : kfB ks id = false ∧ kfL ks id = [] := by
  unfold kfB kfL kfK
  rw [h]
  exact ⟨rfl, rfl⟩
theorem walk_fnKeys (w : World) (a : Option Addr) (n c : Nat) (xs : List Int) (hb : Bs w a n c xs) (hre : n ≤ 140737488351232) (hT : Tabs w ∧ TabF w) :
    Calls Tryd.prog 6 #[.slice a n c] w fun e w' => e = .returned (.bool true) ∧ Below w.heap.size w w' := by
  have HX : Hid (Bs w a n c xs) := hb
  have HT : Hid (∀ Z, Below w.heap.size w Z → Tabs Z ∧ TabF Z) := fun Z hZ => ⟨hT.1.below hZ, hT.2.below hZ⟩
  clear hb hT
  go_enter Tryd.func6, Tryd.ntmps6
  go_wp2_with fail
  refine (drawKeyFor a n c xs _ HX.out (by omega)).mono ?_
  rintro e w1 ⟨g, cap, ks, id, rfl, hK, b1⟩
  have HW : Hid (Below w.heap.size w w1) := b1
  have HK : Hid (∀ Z, Below w1.heap.size w1 Z → Ks Z (some ⟨g, 0, none⟩) 4 cap ks) := fun Z hZ => hK.below hZ
  have hl4 : ks.length = 4 := hK.2.1
  have HL4 : Hid (ks.length = 4) := hl4
  have hby : ∀ x ∈ kfL ks id, 0 ≤ x ∧ x < 256 := kfL_byte hK.by_ id
  have HY : Hid (∀ x ∈ kfL ks id, 0 ≤ x ∧ x < 256) := hby
  have B0 : Below w1.heap.size w1 w1 := Below.refl _ _
  clear HX b1 hl4 hby hK
  go_wp2_with fail
  refine (implKeyFor (some ⟨g, 0, none⟩) 4 cap ks id _ (HK.out _ B0)).mono ?_
  rintro e w2 ⟨v, rfl, o, hb⟩
  obtain ⟨va, vc, rfl, _, _⟩ := Bs.own o HY.out
  have B : Below w1.heap.size w1 w2 := hb
  have HO : Hid (w2.ownsRow w1.heap.size 5 1 (.slice va (kfL ks id).length vc) (kfL ks id).length (U8 (kfL ks id))) := o
  obtain ⟨L, hL⟩ : ∃ L, L = kfL ks id := ⟨_, rfl⟩
  obtain ⟨R, hR⟩ : ∃ R, R = kfB ks id := ⟨_, rfl⟩
  have HL : Hid (L = kfL ks id) := hL
  have HR : Hid (R = kfB ks id) := hR
  rw [← hL] at HO HY ⊢
  rw [← hR]
  obtain ⟨m, hm⟩ : ∃ m, m = L.length := ⟨_, rfl⟩
  have HM : Hid (m = L.length) := hm
  rw [← hm] at HO ⊢
  clear o hb B0 hL hR hm
  go_wp2_with fail
  refine (spec8KeysOk (some ⟨g, 0, none⟩) 4 cap ks _ (HK.out _ B)).mono ?_
  rintro e w3 ⟨rfl, hb⟩
  replace B := B.trans (hb.mono B.size)
  replace HO : Hid (w3.ownsRow w1.heap.size 5 1 (.slice va m vc) m (U8 L)) := own_below HO.out hb
  clear hb
  obtain ⟨q, hq⟩ : ∃ q, q = kOk ks := ⟨_, rfl⟩
  have HQ : Hid (q = kOk ks) := hq
  rw [← hq]
  clear hq
  cases q
  · have hn := kf_not (id := id) HQ.out.symm
    have hRf : R = false := HR.out.trans hn.1
    have hm0 : m = 0 := by rw [HM.out, HL.out, hn.2]; rfl
    subst hRf hm0
    clear hn
    have Bw := HW.out.trans (B.mono HW.out.size)
    go_wp2_with fail
    refine (hashesT _ (HT.out _ Bw).1 (HT.out _ Bw).2).mono ?_
    rintro e w4 ⟨rfl, hb⟩
    replace B := B.trans (hb.mono B.size)
    clear hb Bw
    go_wp2_with fail
    refine (implKeysOk (some ⟨g, 0, none⟩) 4 cap ks _ (HK.out _ B)).mono ?_
    rintro e w5 ⟨rfl, hb⟩
    rw [← HQ.out]
    replace B := B.trans (hb.mono B.size)
    have Bw := HW.out.trans (B.mono HW.out.size)
    clear hb B HK HO
    go_wp2
    go_ret
    exact ⟨rfl, Bw⟩
  go_wp2
  go_loopw [7] (fun iv wr => ∃ i : Nat, i ≤ 4 ∧ iv = .int .i64 i ∧ Hid (∀ j, j < i → (ks.getD j kz).i ≠ id) ∧ Hid (wr.ownsRow w1.heap.size 5 1 (.slice va m vc) m (U8 L)) ∧ Below w1.heap.size w1 wr) (fun iv _ => 4 - (intOf iv).toNat)
  case atStart => exact ⟨0, by omega, rfl, (fun j hj => by omega), HO, B⟩
  case round =>
    clear HO B
    obtain ⟨i, hi, rfl, HJ, HO, B⟩ := hrel
    by_cases hlt : i < 4
    · have hltI : (i : Int) < 4 := by omega
      obtain ⟨ha, hc, K⟩ : ∃ ha hc, KeyAt wr g (i * 4) (ks.getD i kz) ha hc := by
        rcases (HK.out _ B).2.2.2 with h | ⟨b, o, e, _, h⟩
        · omega
        · cases e
          obtain ⟨ha, hc, K⟩ := h i hlt
          exact ⟨ha, hc, by simpa using K⟩
      have HF : Hid ((ks.getD i kz).i = id → kfB ks id = ((ks.getD i kz).r == 2 && !(ks.getD i kz).v) ∧ (kfB ks id = true → kfL ks id = (ks.getD i kz).p)) := fun h => kf_first HQ.out.symm (by rw [HL4.out]; exact hlt) h
      obtain ⟨x, hx⟩ : ∃ x, x = ks.getD i kz := ⟨_, rfl⟩
      have HXX : Hid (x = ks.getD i kz) := hx
      rw [← hx] at K HF
      clear hx
      obtain ⟨xi, xr, xv, xp⟩ := x
      obtain ⟨c0, c1, c2, c3, by0⟩ := K
      dsimp only at c0 c1 c2 c3 by0 HF
      have hw : IntKind.i64.wrap ((i : Int) + 1) = (i : Int) + 1 := wr64 (by omega) (by omega)
      by_cases he : xi = id
      · subst he
        obtain ⟨hB, hLp⟩ := HF.out rfl
        rw [← HR.out] at hB hLp
        rw [← HL.out] at hLp
        have HLp : Hid (R = true → L = xp) := hLp
        have HBy : Hid (Bs wr ha xp.length hc xp) := by0
        have hbw := c0
        have hlw : g < wr.heap.size := by
          rcases (HK.out _ B).2.2.2 with h | ⟨b, o, e, hl, _⟩
          · omega
          · cases e; exact hl
        clear HF hLp by0
        go_wp2_with fail
        refine (implKeysOk (some ⟨g, 0, none⟩) 4 cap ks _ (HK.out _ B)).mono ?_
        rintro e w4 ⟨rfl, hb⟩
        rw [← HQ.out]
        have d1 := (hb.cell (p := ⟨g, _, none⟩) hlw).trans c1
        have d2 := (hb.cell (p := ⟨g, _, none⟩) hlw).trans c2
        have d3 := (hb.cell (p := ⟨g, _, none⟩) hlw).trans c3
        replace HO : Hid (w4.ownsRow w1.heap.size 5 1 (.slice va m vc) m (U8 L)) := own_below HO.out hb
        replace HBy : Hid (Bs w4 ha xp.length hc xp) := HBy.out.below hb
        replace B := B.trans (hb.mono B.size)
        have Bw := HW.out.trans (B.mono HW.out.size)
        clear hb c0 c1 c2 c3 hbw B
        cases R
        · have hB' : (xr == 2 && !xv) = false := hB.symm
          by_cases hr2 : xr = 2
          · subst hr2
            have hv : xv = true := by simpa using hB'
            subst hv
            clear hB hB'
            go_wp2
            go_ret
            exact ⟨rfl, Bw⟩
          · have hr2' : (xr == 2) = false := by simpa using hr2
            clear hB hB' hr2
            go_wp2
            go_ret
            exact ⟨rfl, Bw⟩
        · have hB' : (xr == 2 && !xv) = true := hB.symm
          have hr2 : xr = 2 := by simp at hB'; exact hB'.1
          have hv : xv = false := by simp at hB'; exact hB'.2
          subst hr2 hv
          clear hB hB'
          go_wp2_with fail
          refine (sameT va ha m vc xp.length hc L xp _ (by rw [HM.out]; rw [HM.out] at HO; exact bs_of_own HO.out HY.out) HBy.out (HLp.out (by first | rfl | trivial))).mono ?_
          rintro e w5 ⟨rfl, hw5⟩
          rw [hw5]
          clear hw5 d1 d2 d3
          go_wp2
          go_ret
          exact ⟨rfl, Bw⟩
      · have he' : (xi == id) = false := by simpa using he
        have HJ2 : Hid (∀ j, j < i + 1 → (ks.getD j kz).i ≠ id) := fun j hj => by
          by_cases e : j = i
          · subst e; rw [← HXX.out]; exact he
          · exact HJ.out j (by omega)
        clear he HF by0
        go_wp2
        go_roundw
        case rel => exact ⟨i + 1, by omega, by go_num, HJ2, HO, B⟩
        case measure => simp [intOf]; omega
    · have hi4 : i = 4 := by omega
      subst hi4
      have hRf : R = false := HR.out.trans (kf_out HQ.out.symm (fun j hj => HJ.out j (by rw [HL4.out] at hj; exact hj)))
      subst hRf
      go_wp2_with fail
      refine (implKeysOk (some ⟨g, 0, none⟩) 4 cap ks _ (HK.out _ B)).mono ?_
      rintro e w4 ⟨rfl, hb⟩
      rw [← HQ.out]
      replace B := B.trans (hb.mono B.size)
      have Bw := HW.out.trans (B.mono HW.out.size)
      clear hb B HK HO
      go_wp2
      go_ret
      exact ⟨rfl, Bw⟩
end Go.Proofs.YtofflhhlacdgfaaDoor

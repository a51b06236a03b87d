/-
  What is proved here: the law FnScans returns true at every code, and writes into nothing that was there.
-/
import Derived.Test.YtjceajgefpinpaaJN11
import Derived.Test.YtjceajgefpinpaaJN13
import Derived.Test.YtjceajgefpinpaaJN20
import Derived.Test.YtjceajgefpinpaaC1m
import Derived.Test.YtjceajgefpinpaaJN22
import Derived.Laws.StructEq
import Derived.BigQuiet
namespace Go.Proofs.Ytjceajgefpinpaa
open Go.RowKit
set_option maxRecDepth 100000
set_option maxHeartbeats 8000000
set_option linter.unusedVariables false

theorem walk_fnScans (w : World) (a : Option Addr) (n c : Nat) (xs : List Int) (hb : Bs w a n c xs) (hl : n ≤ 9223372036854775807) :
    Calls Try.prog 3 #[.slice a n c] w fun e w' => e = .returned (.bool true) ∧ Below w.heap.size w w' := by
  have HX : Hid (Bs w a n c xs) := hb
  clear hb
  go_enter Try.func3, Try.ntmps3
  go_wp2_with fail
  refine (drawScan a n c xs _ HX.out hl).mono ?_
  rintro e w1 ⟨g, o, N, cap, ys, rfl, hR, hN, b1⟩
  have HW : Hid (Below w.heap.size w w1) := b1
  have HB : Hid (Bs w1 (some ⟨g, o, none⟩) N cap ys) := hR
  clear hR HX b1
  go_wp2_with fail
  refine (implScan _ _ _ ys _ HB.out (by omega)).mono ?_
  rintro e w2 ⟨v, rfl, O, B⟩
  rcases hN with rfl | rfl
  case inr =>
    have e1 : scL ys = [] := if_neg (by have := HB.out.2.1; omega)
    have e2 : scN ys = 0 := if_neg (by have := HB.out.2.1; omega)
    rw [e1] at O
    rw [e2]
    obtain ⟨va, vc, rfl, _, _⟩ := Rs.own O
    have B1 := HW.out.trans (B.mono HW.out.size)
    clear O e1 e2 B HB HW
    go_wp2_with fail
    refine (implLogs _).mono ?_
    rintro e w3 ⟨rfl, hb⟩
    have B2 := B1.trans (hb.mono B1.size)
    clear hb B1
    go_wp2
    go_ret
    exact ⟨rfl, B2⟩
  have hyl : ys.length = 256 := HB.out.2.1
  have e1 : scL ys = scR ys 32 := if_pos hyl
  have e2 : scN ys = scU ys 32 := if_pos hyl
  rw [e1] at O
  rw [e2]
  clear e1 e2
  have hcap : 256 ≤ cap := HB.out.2.2.1
  obtain ⟨U, hU⟩ : ∃ U : Nat, U = scU ys 32 := ⟨_, rfl⟩
  rw [← hU]
  have hU32 : U ≤ 32 := by rw [hU]; exact scU_le _ _
  have HUs : Hid (U = scU ys 32) := hU
  obtain ⟨m, hm⟩ : ∃ m, m = (scR ys 32).length := ⟨_, rfl⟩
  have hm32 : m ≤ 32 := by rw [hm]; exact scR_le _ _
  have HM : Hid (m = (scR ys 32).length) := hm
  rw [← hm] at O
  obtain ⟨va, vc, rfl, _, _⟩ := Rs.own O
  have HO : Hid (w2.ownsRow w1.heap.size 29 4 (.slice va m vc) m (FL (scR ys 32))) := O
  clear O hU hm
  have HY : Hid _ := hyl
  clear hyl
  go_wp2
  go_loopw [6, 7] (fun kv iv wr => ∃ i : Nat, i ≤ 32 ∧ iv = .int .i64 i ∧ kv = .int .i64 ((scR ys i).length : Nat) ∧ Hid (wr.ownsRow w1.heap.size 29 4 (.slice va m vc) m (FL (scR ys 32))) ∧ Below w1.heap.size w1 wr) (fun _ iv _ => 32 - (intOf iv).toNat)
  case atStart => exact ⟨0, by omega, rfl, rfl, HO, B⟩
  case round =>
    clear HO B
    obtain ⟨i, hi, rfl, rfl, HO, B⟩ := hrel
    by_cases hlt : i < 32
    · have hltI : (i : Int) < 32 := by omega
      have HP : Hid (∀ Z, Below w1.heap.size w1 Z → Bs Z (some ⟨g, o + 8 * i, none⟩) 8 (cap - 8 * i) (pl ys i)) := fun Z hZ => bs_pl (HB.out.below hZ) hlt
      have HSn : Hid _ := scR_len ys i
      have HH : Hid (gOkB (pl ys i) = true → rg (scR ys 32) (scR ys i).length = goR (pl ys i) ∧ (scR ys i).length < (scR ys 32).length) := fun h => scR_has ys i h 32 hlt
      have HU1 : Hid (gOkB (pl ys i) = true → i < U) := fun h => by have := used_of ys i (ok_full h) 32 hlt; rw [HUs.out]; exact this
      have HU2 : Hid (U ≤ i → blk (pl ys i) = true) := fun h => blk_of ys i 32 hlt (by rw [← HUs.out]; exact h)
      have HPL : Hid ((pl ys i).length = 8) := pl_len HY.out hlt
      have hK32 := scR_le ys i
      obtain ⟨K, hK⟩ : ∃ K, K = (scR ys i).length := ⟨_, rfl⟩
      obtain ⟨K2, hK2⟩ : ∃ K2, K2 = (scR ys (i + 1)).length := ⟨_, rfl⟩
      have HK2 : Hid (K2 = (scR ys (i + 1)).length) := hK2
      rw [← hK] at HH HSn hK32 ⊢
      rw [← hK2, ] at HSn
      rw [← HM.out] at HH
      clear hK hK2
      obtain ⟨q, hq⟩ : ∃ q, q = 8 * i := ⟨_, rfl⟩
      rw [← hq] at HP
      have w1' : IntKind.i64.wrap ((i : Int) * 8) = (q : Int) := by rw [show (i : Int) * 8 = (q : Int) by omega]; exact wr64 (by omega) (by omega)
      have w2' : IntKind.i64.wrap ((i : Int) + 1) = (i : Int) + 1 := wr64 (by omega) (by omega)
      have w3' : IntKind.i64.wrap (((i : Int) + 1) * 8) = (q : Int) + 8 := by rw [show ((i : Int) + 1) * 8 = (q : Int) + 8 by omega]; exact wr64 (by omega) (by omega)
      have t1 : ((q : Int) + 8).toNat = q + 8 := by omega
      have hqc : (q : Int) + 8 ≤ (cap : Int) := by omega
      have hqd : (q : Int) ≤ (q : Int) + 8 := by omega
      have hne : q ≠ cap := by omega
      have hr1 : q + 8 - q = 8 := by omega
      clear hq
      go_wp2_with fail
      refine (implRecGet (some ⟨g, o + q, none⟩) 8 (cap - q) (pl ys i) _ (HP.out _ B) (by omega)).mono ?_
      rintro e w3 ⟨rfl, hb⟩
      replace B := B.trans (hb.mono B.size)
      replace HO : Hid (w3.ownsRow w1.heap.size 29 4 (.slice va m vc) m (FL (scR ys 32))) := own_below HO.out hb
      clear hb
      unfold goV
      obtain ⟨gk, hgk⟩ : ∃ q, q = goK (pl ys i) := ⟨_, rfl⟩
      obtain ⟨gb, hgb⟩ : ∃ q, q = goB (pl ys i) := ⟨_, rfl⟩
      obtain ⟨gn, hgn⟩ : ∃ q, q = goN (pl ys i) := ⟨_, rfl⟩
      obtain ⟨gf, hgf⟩ : ∃ q, q = goF (pl ys i) := ⟨_, rfl⟩
      obtain ⟨ok, hok⟩ : ∃ q, q = gOkB (pl ys i) := ⟨_, rfl⟩
      unfold goR at HH
      rw [← hgk, ← hgb, ← hgn, ← hgf, ← hok] at HH
      rw [← hok] at HSn HU1
      rw [← hgk, ← hgb, ← hgn, ← hgf, ← hok]
      clear hgk hgb hgn hgf hok
      obtain ⟨X, hX⟩ : ∃ X, X = w3.alloc (.cells #[.int .i64 gk, .int .i64 gb, .int .i64 gn, .int .i64 gf] 29) := ⟨_, rfl⟩
      have hb : Below w3.heap.size w3 X := by rw [hX]; exact (Below.refl _ _).alloc (Nat.le_refl _) _
      have R : Arr X w3.heap.size 29 [.int .i64 gk, .int .i64 gb, .int .i64 gn, .int .i64 gf] := by rw [hX]; exact Arr.new _ _ _
      replace B := B.trans (hb.mono B.size)
      replace HO : Hid (X.ownsRow w1.heap.size 29 4 (.slice va m vc) m (FL (scR ys 32))) := own_below HO.out hb
      clear hb
      obtain ⟨G, hG⟩ : ∃ G, G = w3.heap.size := ⟨_, rfl⟩
      rw [← hG] at R
      go_upto_region 11 with fail
      rw [← hX]
      rw [← hG]
      clear hX hG w1' w3' t1 hqc hqd hne hr1
      cases ok
      · replace HSn : Hid (K2 = K) := HSn.out
        clear HH HU1
        go_wp2
        go_loopw [11] (fun jv wr => ∃ j : Nat, j ≤ 8 ∧ jv = .int .i64 j ∧ Hid (wr.ownsRow w1.heap.size 29 4 (.slice va m vc) m (FL (scR ys 32))) ∧ Below w1.heap.size w1 wr) (fun jv _ => 8 - (intOf jv).toNat)
        case atStart => exact ⟨0, by omega, rfl, HO, B⟩
        case round =>
          clear HO B
          obtain ⟨j, hj, rfl, HO, B⟩ := hrel
          by_cases hj8 : j < 8
          · have hjI : (j : Int) < 8 := by omega
            by_cases hUi : U ≤ i
            · have hUI : (U : Int) ≤ (i : Int) := by omega
              obtain ⟨b2, o2, e2, _, hcell⟩ : ∃ b o', (some ⟨g, o + q, none⟩ : Option Addr) = some ⟨b, o', none⟩ ∧ b < _ ∧ ∀ j, j < 8 → _ := by
                rcases (HP.out _ B).2.2.2.2 with h | h
                · omega
                · exact h
              have hc := hcell j hj8
              cases e2
              rw [blk_get (HU2.out hUi) (by rw [HPL.out]; exact hj8)] at hc
              have hwj : IntKind.i64.wrap ((j : Int) + 1) = (j : Int) + 1 := wr64 (by omega) (by omega)
              clear hcell
              go_wp2
              go_roundw
              case rel => exact ⟨j + 1, by omega, by go_num, HO, B⟩
              case measure => simp [intOf]; omega
            · have hUI : (i : Int) < (U : Int) := by omega
              go_wp2
              go_roundw
              case rel => exact ⟨i + 1, by omega, by go_num, by rw [← HK2.out, HSn.out], HO, B⟩
              case measure => simp [intOf]; omega
          · have hj8' : j = 8 := by omega
            subst hj8'
            go_wp2
            go_roundw
            case rel => exact ⟨i + 1, by omega, by go_num, by rw [← HK2.out, HSn.out], HO, B⟩
            case measure => simp [intOf]; omega
      · replace HSn : Hid (K2 = K + 1) := HSn.out
        obtain ⟨hrg, hKm⟩ := HH.out rfl
        have hiU := HU1.out rfl
        have hat := (rs_of_own HO.out).opened (by omega)
        obtain ⟨b3, o3, rfl, hbs, hcell⟩ := hat
        have hr := hcell K hKm
        rw [hrg] at hr
        obtain ⟨c0, c1, c2, c3⟩ := hr
        dsimp only at c0 c1 c2 c3
        have r0 := R.cell 0
        have r1 := R.cell 1
        have r2 := R.cell 2
        have r3 := R.cell 3
        simp at r0 r1 r2 r3
        have hKI : (K : Int) < (m : Int) := by omega
        have hiI : (i : Int) < (U : Int) := by omega
        have hd1 : decide ((m : Int) ≤ (K : Int)) = false := by simp; omega
        have hd2 : decide ((U : Int) ≤ (i : Int)) = false := by simp; omega
        have hwK : IntKind.i64.wrap ((K : Int) + 1) = (K : Int) + 1 := wr64 (by omega) (by omega)
        clear hrg hcell
        go_wp2
        go_quiet (fail)
        have hbd : Below X.heap.size X (X.drewN nq) := bel_dN (Below.refl _ _) nq
        replace B := B.trans (hbd.mono B.size)
        replace HO : Hid ((X.drewN nq).ownsRow w1.heap.size 29 4 (.slice (some ⟨b3, o3, none⟩) m vc) m (FL (scR ys 32))) := own_below HO.out hbd
        generalize X.drewN nq = Y at B HO ⊢
        clear hbd c0 c1 c2 c3 r0 r1 r2 r3 R hbs hd1 hd2
        clear HH HU1
        go_wp2
        go_loopw [11] (fun jv wr => ∃ j : Nat, j ≤ 8 ∧ jv = .int .i64 j ∧ Hid (wr.ownsRow w1.heap.size 29 4 (.slice (some ⟨b3, o3, none⟩) m vc) m (FL (scR ys 32))) ∧ Below w1.heap.size w1 wr) (fun jv _ => 8 - (intOf jv).toNat)
        case atStart => exact ⟨0, by omega, rfl, HO, B⟩
        case round =>
          clear HO B
          obtain ⟨j, hj, rfl, HO, B⟩ := hrel
          by_cases hj8 : j < 8
          · have hjI : (j : Int) < 8 := by omega
            by_cases hUi : U ≤ i
            · have hUI : (U : Int) ≤ (i : Int) := by omega
              obtain ⟨b2, o2, e2, _, hcell⟩ : ∃ b o', (some ⟨g, o + q, none⟩ : Option Addr) = some ⟨b, o', none⟩ ∧ b < _ ∧ ∀ j, j < 8 → _ := by
                rcases (HP.out _ B).2.2.2.2 with h | h
                · omega
                · exact h
              have hc := hcell j hj8
              cases e2
              rw [blk_get (HU2.out hUi) (by rw [HPL.out]; exact hj8)] at hc
              have hwj : IntKind.i64.wrap ((j : Int) + 1) = (j : Int) + 1 := wr64 (by omega) (by omega)
              clear hcell
              go_wp2
              go_roundw
              case rel => exact ⟨j + 1, by omega, by go_num, HO, B⟩
              case measure => simp [intOf]; omega
            · have hUI : (i : Int) < (U : Int) := by omega
              go_wp2
              go_roundw
              case rel => exact ⟨i + 1, by omega, by go_num, by rw [← HK2.out, HSn.out]; rfl, HO, B⟩
              case measure => simp [intOf]; omega
          · have hj8' : j = 8 := by omega
            subst hj8'
            go_wp2
            go_roundw
            case rel => exact ⟨i + 1, by omega, by go_num, by rw [← HK2.out, HSn.out]; rfl, HO, B⟩
            case measure => simp [intOf]; omega
    · have hi32 : i = 32 := by omega
      subst hi32
      rw [← HM.out]
      clear HO HB HUs HY
      have B2 := HW.out.trans (B.mono HW.out.size)
      clear B HW
      go_wp2_with fail
      refine (implLogs _).mono ?_
      rintro e w4 ⟨rfl, hb⟩
      have B3 := B2.trans (hb.mono B2.size)
      clear hb B2
      go_wp2
      go_ret
      exact ⟨rfl, B3⟩
end Go.Proofs.Ytjceajgefpinpaa

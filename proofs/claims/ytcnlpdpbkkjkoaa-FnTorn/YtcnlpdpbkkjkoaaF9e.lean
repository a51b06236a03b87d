/-
  What is proved here: what the specification's l9erase writes into a flash.
-/
import Derived.Test.YtcnlpdpbkkjkoaaF9p
namespace Go.Proofs.Ytcnlpdpbkkjkoaa
set_option maxRecDepth 100000
set_option maxHeartbeats 4000000
open Go.RowKit

theorem own_otherO {w : World} {b e s n : Nat} {v : Value} {xs : List Value} (h : w.ownsRow b e s v n xs) (p : Addr) (u : Value) (hp : v.ownBlock ≠ some p.block) : (w.setCell p u).ownsRow b e s v n xs := by
  refine ⟨h.1, ?_⟩
  rcases h.2 with hn | ⟨g, cap, cur, rfl, hg, hgg, rest⟩
  · exact .inl hn
  · refine .inr ⟨g, cap, cur, rfl, hg, ?_, rest⟩
    rw [heap_setCell_other w p g u (fun e => hp (by rw [← e]; rfl))]
    exact hgg

theorem specEraseB (lo P g nB cB gw nW cW : Nat) (bs ws : List Int) (S : Nat) (am : Option Addr) (nm cm : Nat) (ms : List Int) (w : World)
    (hA : Arr w P 25 [.slice (some ⟨g, 0, none⟩) nB cB, .slice (some ⟨gw, 0, none⟩) nW cW]) (hPg : P ≠ g) (hPw : P ≠ gw) (hgw : g ≠ gw) (ho : w.ownsRow lo 5 1 (.slice (some ⟨g, 0, none⟩) nB cB) nB (U8 bs)) (hw : w.ownsRow lo 3 1 (.slice (some ⟨gw, 0, none⟩) nW cW) nW (I64 ws)) (hm : Bs w am nm cm ms)
    (fm : OffB am nm g) (fw : OffB am nm gw) (hS : S < nW) (hn : nB ≤ 2097152) (hSn : S * 64 + 64 ≤ nB) (hmn : nm ≤ 2097152) (hx0 : 0 ≤ ws.getD S 0) (hx1 : ws.getD S 0 ≤ 200) :
    Calls Try.prog 84 #[.pointer (some ⟨P, 0, none⟩), .int .i64 S, .slice am nm cm] w fun e w' => (∃ v, e = .returned v) ∧ w'.ownsRow lo 5 1 (.slice (some ⟨g, 0, none⟩) nB cB) nB (U8 (tn (ef ms) bs (S * 64) 64)) ∧ w'.ownsRow lo 3 1 (.slice (some ⟨gw, 0, none⟩) nW cW) nW (I64 (ws.set S (ws.getD S 0 + 1))) ∧ Gr2 w w' (some g) (some gw) := by
  have hbl : bs.length = nB := (own_shape ho).1
  obtain ⟨hwl, hws⟩ := own_shapeI hw
  obtain ⟨x, ex⟩ : ∃ x, x = ws.getD S 0 := ⟨_, rfl⟩
  rw [← ex] at hx0 hx1 ⊢
  have cw : w.cell? ⟨gw, S, none⟩ = some (.int .i64 x) := by
    rw [hw.cellAt S (by omega)]
    simp [show S < ws.length by omega] at ex ⊢
    exact ex.symm
  have fz := hw.frozenAt S
  have st := hw.stored S (.int .i64 (x + 1))
  rw [show (I64 ws).set S (.int .i64 (x + 1)) = I64 (ws.set S (x + 1)) by simp [I64]] at st
  obtain ⟨w1, hw1⟩ : ∃ w1, w1 = w.setCell ⟨gw, S, none⟩ (.int .i64 (x + 1)) := ⟨_, rfl⟩
  rw [← hw1] at st
  have hA1 : Arr w1 P 25 [.slice (some ⟨g, 0, none⟩) nB cB, .slice (some ⟨gw, 0, none⟩) nW cW] := by rw [hw1]; exact hA.other _ _ hPw
  have ho1 : w1.ownsRow lo 5 1 (.slice (some ⟨g, 0, none⟩) nB cB) nB (U8 (tn (ef ms) bs (S * 64) 0)) := by rw [hw1, tn_zero]; exact own_otherO ho _ _ (fun e => hgw (Option.some.inj e))
  have hm1 : Bs w1 am nm cm ms := hm.grownO st.2 fw
  have HG1 : Hid _ := st.2
  have HW1 : Hid _ := st.1
  have c0 := hA.cell 0
  have c1 := hA.cell 1
  simp at c0 c1
  have hSi : (S : Int) < (nW : Int) := by omega
  have hS48 : S ≤ 32768 := by omega
  have hadd : IntKind.i64.wrap (x + 1) = x + 1 := by rw [IntKind.wrap_i64]; omega
  clear st ex
  go_enter Try.func84, Try.ntmps84
  go_wp2
  rw [← hw1]
  clear cw fz c0 c1 ho hm hw hadd
  have hSw : IntKind.i64.wrap ((S : Int) * 64) = (S : Int) * 64 := by rw [IntKind.wrap_i64]; omega
  go_loopw [6] (fun i wr => ∃ k : Nat, k ≤ 64 ∧ i = .int .i64 k ∧ wr.ownsRow lo 5 1 (.slice (some ⟨g, 0, none⟩) nB cB) nB (U8 (tn (ef ms) bs (S * 64) k)) ∧ w1.grownBy wr (some g)) (fun i _ => 64 - (intOf i).toNat)
  case atStart => exact ⟨0, Nat.zero_le _, rfl, ho1, World.grownBy.refl _ _⟩
  case round =>
    obtain ⟨k, hk, rfl, hown, hg⟩ := hrel
    clear ho1 hw1
    by_cases hlt : k < 64
    · have hltI : (k : Int) < 64 := by omega
      have A : Arr wr P 25 [.slice (some ⟨g, 0, none⟩) nB cB, .slice (some ⟨gw, 0, none⟩) nW cW] := by
        unfold Arr
        rw [hg.block P hA1.lt (fun e => hPg (Option.some.inj e))]
        exact hA1
      have M := hm1.grownO hg fm
      obtain ⟨m, em⟩ : ∃ m, m = mk ms k := ⟨_, rfl⟩
      have HM := fun y (b : Below wr.heap.size wr y) => specMask am nm cm ms k y (M.below b) (by omega) (by omega)
      rw [← em] at HM
      obtain ⟨y0, ey⟩ : ∃ y, y = bs.getD (S * 64 + k) 0 := ⟨_, rfl⟩
      have c1 : wr.cell? ⟨g, S * 64 + k, none⟩ = some (.int .u8 y0) := by
        rw [hown.cellAt (S * 64 + k) (by omega)]
        have e1 := tn_get (ef ms) bs (S * 64) k (S * 64 + k) (by omega)
        rw [if_neg (by omega), ← ey] at e1
        have h2 : S * 64 + k < (tn (ef ms) bs (S * 64) k).length := by rw [tn_len]; omega
        simp only [List.getD_eq_getElem?_getD, List.getElem?_eq_getElem h2, Option.getD_some] at e1
        simp [h2, e1]
      have hgs : g < wr.heap.size := (hown.lt g rfl).2
      have c0 := A.cell 0
      simp at c0
      obtain ⟨V, eV⟩ : ∃ V, V = bits .or .u8 y0 m := ⟨_, rfl⟩
      have HS : Hid (∀ W : World, W.ownsRow lo 5 1 (.slice (some ⟨g, 0, none⟩) nB cB) nB (U8 (tn (ef ms) bs (S * 64) k)) → (W.setCell ⟨g, S * 64 + k, none⟩ (.int .u8 V)).ownsRow lo 5 1 (.slice (some ⟨g, 0, none⟩) nB cB) nB (U8 (tn (ef ms) bs (S * 64) (k + 1))) ∧ W.grownBy (W.setCell ⟨g, S * 64 + k, none⟩ (.int .u8 V)) (some g)) := by
        intro W hW
        have := hW.stored (S * 64 + k) (.int .u8 V)
        rw [tn_set (ef ms) bs (S * 64) k (by omega) V (by rw [eV]; unfold ef erb; rw [← em, ← ey])] at this
        exact this
      have hIk : (S : Int) * 64 + (k : Int) < (nB : Int) := by omega
      have hI0 : (0 : Int) ≤ (S : Int) * 64 + (k : Int) := by omega
      have hIw : IntKind.i64.wrap ((S : Int) * 64 + (k : Int)) = (S : Int) * 64 + (k : Int) := by rw [IntKind.wrap_i64]; omega
      have hIt : ((S : Int) * 64 + (k : Int)).toNat = S * 64 + k := by omega
      clear em ey M
      have HV : Hid _ := eV
      clear eV
      go_wp2
      try simp only [Act.put]
      refine tameG [kc 25 (.pointer (some ⟨P, 0, none⟩)), kc 26 (.pointer (some ⟨P, 0, none⟩)), kc 27 (.pointer (some ⟨P, 0, none⟩)), kc 28 (.slice (some ⟨g, 0, none⟩) nB cB), kc 29 (.int .i64 ((S : Int) * 64 + (k : Int))), kc 30 (.pointer (some ⟨P, 0, none⟩)), kc 31 (.pointer (some ⟨P, 0, none⟩)), kc 32 (.pointer (some ⟨P, 0, none⟩)), kc 33 (.slice (some ⟨g, 0, none⟩) nB cB), kc 34 (.int .i64 ((S : Int) * 64 + (k : Int))), kc 35 (.pointer (some ⟨g, S * 64 + k, none⟩)), kc 36 (.int .u8 (y0)), kc 37 (.slice am nm cm), kc 38 (.int .i64 (k : Int)), kc 39 (.int .u8 (m)), kc 40 (.int .u8 (V)), kc 41 (.pointer (some ⟨g, S * 64 + k, none⟩))] 17 (by kernel_rfl) (by kernel_rfl) (by kernel_rfl) (by repeat' first | exact trivial | apply kc_keeps | constructor) 1 (by kernel_rfl) (fun vv ll hh yW bW => ?_) (fun vv ll hh yW bW F ivh aph => ?_)
      · have x0 := (bW.cell (p := ⟨P, 0, none⟩) A.lt).trans c0
        have x1 := (bW.cell (p := ⟨g, _, none⟩) hgs).trans c1
        have eV := HV.out
        refine ⟨og (tp (by kernel_rfl)) (by kernel_rfl), og (tp (by kernel_rfl)) (by kernel_rfl), og (tp (by kernel_rfl)) (by kernel_rfl), og (tp ?_) (by kernel_rfl), og (tp (by kernel_rfl)) (by kernel_rfl), og (tp (by kernel_rfl)) (by kernel_rfl), og (tp (by kernel_rfl)) (by kernel_rfl), og (tp (by kernel_rfl)) (by kernel_rfl), og (tp ?_) (by kernel_rfl), og (tp (by kernel_rfl)) (by kernel_rfl), og (tp ?_) (by kernel_rfl), og (tp ?_) (by kernel_rfl), og (tp (by kernel_rfl)) (by kernel_rfl), og (tp (by kernel_rfl)) (by kernel_rfl), og (tc ((HM yW bW).mono (by rintro e w9 ⟨rfl, rfl⟩; exact ⟨rfl, Below.refl _ _⟩)) (by kernel_rfl)) (by kernel_rfl), og (tp ?_) (by kernel_rfl), og (tp ?_) (by kernel_rfl), trivial⟩
        all_goals
          simp only [fillK, putT, List.setIfInBounds_toArray, List.set_cons_zero, List.set_cons_succ]
          unfold execOp
          go_simp
          try rfl
      clear F ivh aph
      obtain ⟨y, hy⟩ : ∃ z, z = yW := ⟨_, rfl⟩
      rw [← hy] at bW ⊢
      clear hy
      refine st_do (i := 17) (by kernel_rfl) rfl rfl rfl (w' := y.setCell ⟨g, S * 64 + k, none⟩ (.int .u8 (V))) ?_ ?_
      · have x1 := (bW.cell (p := ⟨g, _, none⟩) hgs).trans c1
        have x3 : y.frozen? ⟨g, S * 64 + k, none⟩ = false := (own_below hown bW).frozenAt (S * 64 + k)
        simp only [fillK, putT, List.setIfInBounds_toArray, List.set_cons_zero, List.set_cons_succ]
        unfold execOp
        go_simp
      refine wpAny_done (by kernel_rfl) ?_ _
      simp only [fillK, putT, List.setIfInBounds_toArray, List.set_cons_zero, List.set_cons_succ]
      have hs := HS.out y (own_below hown bW)
      have hg2 : w1.grownBy (y.setCell ⟨g, S * 64 + k, none⟩ (.int .u8 V)) (some g) := grown_trans (grown_trans hg (grown_of_below bW)) hs.2
      have HO : Hid _ := hs.1
      have HG : Hid _ := hg2
      clear hs hg2
      generalize y.setCell ⟨g, S * 64 + k, none⟩ (.int .u8 V) = Y at HO HG ⊢
      go_wp2
      go_roundw
      case rel => exact ⟨k + 1, by omega, by go_num, HO.out, HG.out⟩
      case measure => simp [intOf]; omega
    · have hkn : k = 64 := by omega
      subst hkn
      have g1 := HG1.out
      have gg : Gr2 w wr (some g) (some gw) := ⟨hg.os.trans g1.os, hg.tape.trans g1.tape, hg.output.trans g1.output, Nat.le_trans g1.size hg.size, fun i hi n1 n2 => by
        rw [hg.block i (Nat.lt_of_lt_of_le hi g1.size) n1, g1.block i hi n2]⟩
      have hww := own_kept (u := .slice (some ⟨g, 0, none⟩) nB cB) HW1.out hg (fun q h1 h2 => hgw (by cases h1; cases h2; rfl))
      clear g1
      go_wp2
      go_end0
      exact ⟨⟨_, rfl⟩, hown, hww, gg⟩
end Go.Proofs.Ytcnlpdpbkkjkoaa

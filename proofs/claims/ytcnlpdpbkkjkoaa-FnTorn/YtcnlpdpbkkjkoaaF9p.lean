/-
  What is proved here: what the specification's l9program and l9erase write into a flash.
-/
import Derived.Test.YtcnlpdpbkkjkoaaF9t
namespace Go.Proofs.Ytcnlpdpbkkjkoaa
set_option maxRecDepth 100000
set_option maxHeartbeats 4000000
open Go.RowKit

def pf (xs ms : List Int) (i : Nat) (b : Int) : Int := tpb b (xs.getD i 0) (mk ms i)
def ef (ms : List Int) (i : Nat) (b : Int) : Int := erb b (mk ms i)

theorem specProgramB (lo P g nB cB : Nat) (sw : Value) (bs : List Int) (I : Nat) (ab : Option Addr) (nb cb : Nat) (xs : List Int) (am : Option Addr) (nm cm : Nat) (ms : List Int) (w : World)
    (hA : Arr w P 25 [.slice (some ⟨g, 0, none⟩) nB cB, sw]) (hPg : P ≠ g) (ho : w.ownsRow lo 5 1 (.slice (some ⟨g, 0, none⟩) nB cB) nB (U8 bs)) (hx : Bs w ab nb cb xs) (hm : Bs w am nm cm ms)
    (fx : OffB ab nb g) (fm : OffB am nm g) (hI : I + nb ≤ nB) (hn : nB ≤ 2097152) (hmn : nm ≤ 2097152) :
    Calls Try.prog 83 #[.pointer (some ⟨P, 0, none⟩), .int .i64 I, .slice ab nb cb, .slice am nm cm] w fun e w' => (∃ v, e = .returned v) ∧ w'.ownsRow lo 5 1 (.slice (some ⟨g, 0, none⟩) nB cB) nB (U8 (tn (pf xs ms) bs I nb)) ∧ w.grownBy w' (some g) := by
  have hbl : bs.length = nB := (own_shape ho).1
  have hxl := hx.2.1
  have ho0 : w.ownsRow lo 5 1 (.slice (some ⟨g, 0, none⟩) nB cB) nB (U8 (tn (pf xs ms) bs I 0)) := by rw [tn_zero]; exact ho
  go_enter Try.func83, Try.ntmps83
  go_wp2
  go_loopw [8] (fun i wr => ∃ k : Nat, k ≤ nb ∧ i = .int .i64 k ∧ wr.ownsRow lo 5 1 (.slice (some ⟨g, 0, none⟩) nB cB) nB (U8 (tn (pf xs ms) bs I k)) ∧ w.grownBy wr (some g)) (fun i _ => nb - (intOf i).toNat)
  case atStart => exact ⟨0, Nat.zero_le _, rfl, ho0, World.grownBy.refl _ _⟩
  case round =>
    obtain ⟨k, hk, rfl, hown, hg⟩ := hrel
    clear ho0
    by_cases hlt : k < nb
    · have hltI : (k : Int) < (nb : Int) := by omega
      have A : Arr wr P 25 [.slice (some ⟨g, 0, none⟩) nB cB, sw] := by
        unfold Arr
        rw [hg.block P hA.lt (fun e => hPg (Option.some.inj e))]
        exact hA
      have X := hx.grownO hg fx
      have M := hm.grownO hg fm
      obtain ⟨_, _, _, _, hX⟩ := X
      rcases hX with hX | ⟨bx, ox, rfl, hbx, hcx⟩
      · omega
      obtain ⟨x, ex⟩ : ∃ x, x = xs.getD k 0 := ⟨_, rfl⟩
      have c2 : wr.cell? ⟨bx, ox + k, none⟩ = some (.int .u8 x) := by rw [ex]; exact hcx k hlt
      obtain ⟨m, em⟩ : ∃ m, m = mk ms k := ⟨_, rfl⟩
      have HM := fun y (b : Below wr.heap.size wr y) => specMask am nm cm ms k y (M.below b) (by omega) (by omega)
      rw [← em] at HM
      obtain ⟨y0, ey⟩ : ∃ y, y = bs.getD (I + k) 0 := ⟨_, rfl⟩
      have c1 : wr.cell? ⟨g, I + k, none⟩ = some (.int .u8 y0) := by
        rw [hown.cellAt (I + k) (by omega)]
        have e1 := tn_get (pf xs ms) bs I k (I + k) (by omega)
        rw [if_neg (by omega), ← ey] at e1
        have h2 : I + k < (tn (pf xs ms) bs I k).length := by rw [tn_len]; omega
        simp only [List.getD_eq_getElem?_getD, List.getElem?_eq_getElem h2, Option.getD_some] at e1
        simp [h2, e1]
      have hgs : g < wr.heap.size := (hown.lt g rfl).2
      have hfz := hown.frozenAt (I + k)
      have c0 := A.cell 0
      simp at c0
      obtain ⟨V, eV⟩ : ∃ V, V = bits .and .u8 y0 (bits .or .u8 x (bits .xor .u8 255 m)) := ⟨_, rfl⟩
      have HS : Hid (∀ W : World, W.ownsRow lo 5 1 (.slice (some ⟨g, 0, none⟩) nB cB) nB (U8 (tn (pf xs ms) bs I k)) → (W.setCell ⟨g, I + k, none⟩ (.int .u8 V)).ownsRow lo 5 1 (.slice (some ⟨g, 0, none⟩) nB cB) nB (U8 (tn (pf xs ms) bs I (k + 1))) ∧ W.grownBy (W.setCell ⟨g, I + k, none⟩ (.int .u8 V)) (some g)) := by
        intro W hW
        have := hW.stored (I + k) (.int .u8 V)
        rw [tn_set (pf xs ms) bs I k (by omega) V (by rw [eV]; unfold pf tpb; rw [← ex, ← em, ← ey])] at this
        exact this
      have hIk : (I : Int) + (k : Int) < (nB : Int) := by omega
      have hI0 : (0 : Int) ≤ (I : Int) + (k : Int) := by omega
      have hIw : IntKind.i64.wrap ((I : Int) + (k : Int)) = (I : Int) + (k : Int) := by rw [IntKind.wrap_i64]; omega
      have hIt : ((I : Int) + (k : Int)).toNat = I + k := by omega
      clear ex em ey hcx hx hm M
      have HV : Hid _ := eV
      clear eV
      go_wp2
      try simp only [Act.put]
      refine tameG [kc 15 (.pointer (some ⟨P, 0, none⟩)), kc 16 (.pointer (some ⟨P, 0, none⟩)), kc 17 (.pointer (some ⟨P, 0, none⟩)), kc 18 (.slice (some ⟨g, 0, none⟩) nB cB), kc 19 (.int .i64 (I : Int)), kc 20 (.int .i64 (k : Int)), kc 21 (.int .i64 ((I : Int) + (k : Int))), kc 22 (.pointer (some ⟨P, 0, none⟩)), kc 23 (.pointer (some ⟨P, 0, none⟩)), kc 24 (.pointer (some ⟨P, 0, none⟩)), kc 25 (.slice (some ⟨g, 0, none⟩) nB cB), kc 26 (.int .i64 (I : Int)), kc 27 (.int .i64 (k : Int)), kc 28 (.int .i64 ((I : Int) + (k : Int))), kc 29 (.pointer (some ⟨g, I + k, none⟩)), kc 30 (.int .u8 (y0)), kc 31 (.slice (some ⟨bx, ox, none⟩) nb cb), kc 32 (.int .i64 (k : Int)), kc 33 (.pointer (some ⟨bx, ox + k, none⟩)), kc 34 (.int .u8 (x)), kc 35 (.slice am nm cm), kc 36 (.int .i64 (k : Int)), kc 37 (.int .u8 (m)), kc 38 (.int .u8 (bits .xor .u8 255 m)), kc 39 (.int .u8 (bits .or .u8 x (bits .xor .u8 255 m))), kc 40 (.int .u8 (V)), kc 41 (.pointer (some ⟨g, I + k, none⟩))] 27 (by kernel_rfl) (by kernel_rfl) (by kernel_rfl) (by repeat' first | exact trivial | apply kc_keeps | constructor) 1 (by kernel_rfl) (fun vv ll hh yW bW => ?_) (fun vv ll hh yW bW F ivh aph => ?_)
      · have x0 := (bW.cell (p := ⟨P, 0, none⟩) A.lt).trans c0
        have x1 := (bW.cell (p := ⟨g, _, none⟩) hgs).trans c1
        have x2 := (bW.cell (p := ⟨bx, _, none⟩) hbx).trans c2
        have eV := HV.out
        refine ⟨og (tp (by kernel_rfl)) (by kernel_rfl), og (tp (by kernel_rfl)) (by kernel_rfl), og (tp (by kernel_rfl)) (by kernel_rfl), og (tp ?_) (by kernel_rfl), og (tp (by kernel_rfl)) (by kernel_rfl), og (tp (by kernel_rfl)) (by kernel_rfl), og (tp ?_) (by kernel_rfl), og (tp (by kernel_rfl)) (by kernel_rfl), og (tp (by kernel_rfl)) (by kernel_rfl), og (tp (by kernel_rfl)) (by kernel_rfl), og (tp ?_) (by kernel_rfl), og (tp (by kernel_rfl)) (by kernel_rfl), og (tp (by kernel_rfl)) (by kernel_rfl), og (tp ?_) (by kernel_rfl), og (tp ?_) (by kernel_rfl), og (tp ?_) (by kernel_rfl), og (tp (by kernel_rfl)) (by kernel_rfl), og (tp (by kernel_rfl)) (by kernel_rfl), og (tp ?_) (by kernel_rfl), og (tp ?_) (by kernel_rfl), og (tp (by kernel_rfl)) (by kernel_rfl), og (tp (by kernel_rfl)) (by kernel_rfl), og (tc ((HM yW bW).mono (by rintro e w9 ⟨rfl, rfl⟩; exact ⟨rfl, Below.refl _ _⟩)) (by kernel_rfl)) (by kernel_rfl), og (tp ?_) (by kernel_rfl), og (tp ?_) (by kernel_rfl), og (tp ?_) (by kernel_rfl), og (tp ?_) (by kernel_rfl), trivial⟩
        all_goals
          simp only [fillK, putT, List.setIfInBounds_toArray, List.set_cons_zero, List.set_cons_succ]
          unfold execOp
          go_simp
          try rfl
      clear F ivh aph
      obtain ⟨y, hy⟩ : ∃ z, z = yW := ⟨_, rfl⟩
      rw [← hy] at bW ⊢
      clear hy
      refine st_do (i := 27) (by kernel_rfl) rfl rfl rfl (w' := y.setCell ⟨g, I + k, none⟩ (.int .u8 (V))) ?_ ?_
      · have x1 := (bW.cell (p := ⟨g, _, none⟩) hgs).trans c1
        have x3 : y.frozen? ⟨g, I + k, none⟩ = false := (own_below hown bW).frozenAt (I + k)
        simp only [fillK, putT, List.setIfInBounds_toArray, List.set_cons_zero, List.set_cons_succ]
        unfold execOp
        go_simp
      refine wpAny_done (by kernel_rfl) ?_ _
      simp only [fillK, putT, List.setIfInBounds_toArray, List.set_cons_zero, List.set_cons_succ]
      have hs := HS.out y (own_below hown bW)
      have hg2 : w.grownBy (y.setCell ⟨g, I + k, none⟩ (.int .u8 V)) (some g) := grown_trans (grown_trans hg (grown_of_below bW)) hs.2
      have HO : Hid _ := hs.1
      have HG : Hid _ := hg2
      clear hs hg2
      generalize y.setCell ⟨g, I + k, none⟩ (.int .u8 V) = Y at HO HG ⊢
      go_wp2
      go_roundw
      case rel => exact ⟨k + 1, by omega, by go_num, HO.out, HG.out⟩
      case measure => simp [intOf]; omega
    · have hkn : k = nb := by omega
      subst hkn
      go_wp2
      go_end0
      exact ⟨⟨_, rfl⟩, hown, hg⟩
end Go.Proofs.Ytcnlpdpbkkjkoaa

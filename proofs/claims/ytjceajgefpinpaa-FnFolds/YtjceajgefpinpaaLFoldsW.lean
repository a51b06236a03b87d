/-
  What is proved here: the law FnFolds returns true at every code, and writes into nothing that was there.
-/
import Derived.Test.YtjceajgefpinpaaZf1
import Derived.Test.YtjceajgefpinpaaZa0
import Derived.Test.YtjceajgefpinpaaZc0
import Derived.Test.YtjceajgefpinpaaC1c
import Derived.Test.YtjceajgefpinpaaC1f

import Derived.Laws.StructEq
namespace Go.Proofs.Ytjceajgefpinpaa
open Go.RowKit
set_option maxRecDepth 100000
set_option maxHeartbeats 8000000
set_option linter.unusedVariables false

theorem walk_fnFolds (w : World) (a : Option Addr) (n c : Nat) (xs : List Int) (hb : Bs w a n c xs) (hl : n ≤ 9223372036854775807) :
    Calls Try.prog 4 #[.slice a n c] w fun e w' => e = .returned (.bool true) ∧ Below w.heap.size w w' := by
  have HX : Hid (Bs w a n c xs) := hb
  clear hb
  go_enter Try.func4, Try.ntmps4
  go_wp2_with fail
  refine (drawFold a n c xs _ HX.out hl).mono ?_
  rintro e w1 ⟨g, o, N, cap, L, rfl, hR, h33, B⟩
  have HR : Hid _ := hR
  clear hR HX
  go_wp2_with fail
  refine (implFold _ _ _ L _ HR.out (by omega)).mono ?_
  rintro e w2 ⟨rfl, hb⟩
  replace B := B.trans (hb.mono B.size)
  obtain ⟨S, hS⟩ : ∃ S, S = foT L := ⟨_, rfl⟩
  have HOK : Hid (S.2 = true → S.1.Ok) := by unfold Hid; rw [hS]; exact foT_ok
  have HNO : Hid (S.2 = false → S.1 = bz) := by unfold Hid; rw [hS]; exact foT_no
  rw [← hS]
  clear hS HR hb
  obtain ⟨⟨sb, sn, sf, st, si, so⟩, q⟩ := S
  dsimp only [stV, btW]
  obtain ⟨X, hX⟩ : ∃ X, X = w2.alloc (.cells #[.int .i64 sb, .int .i64 sn, .int .i64 sf, .bool st, .int .i64 si, .int .i64 so] 35) := ⟨_, rfl⟩
  have A : Arr X w2.heap.size 35 [.int .i64 sb, .int .i64 sn, .int .i64 sf, .bool st, .int .i64 si, .int .i64 so] := by rw [hX]; exact Arr.new _ _ _
  replace B : Below w.heap.size w X := by rw [hX]; exact B.alloc B.size _
  obtain ⟨G, hG⟩ : ∃ G, G = w2.heap.size := ⟨_, rfl⟩
  rw [← hG] at A
  go_upto_region 3 with fail
  rw [← hX]
  rw [← hG]
  clear hX hG
  cases q
  · have hz := HNO.out rfl
    simp only [bz, Bt.mk.injEq] at hz
    obtain ⟨rfl, rfl, rfl, rfl, rfl, rfl⟩ := hz
    clear HNO HOK
    have p0 := A.cell 0
    have p1 := A.cell 1
    have p2 := A.cell 2
    have p3 := A.cell 3
    have p4 := A.cell 4
    have p5 := A.cell 5
    simp at p0 p1 p2 p3 p4 p5
    go_wp2_with fail
    refine (implLogs _).mono ?_
    rintro e w3 ⟨rfl, hb⟩
    replace B := B.trans (hb.mono B.size)
    clear hb A p0 p1 p2 p3 p4 p5
    go_wp2
    go_ret
    exact ⟨rfl, B⟩
  have hs : btOk sb sn sf st si so := HOK.out rfl
  clear HNO HOK
  have p0 := A.cell 0
  have p1 := A.cell 1
  have p2 := A.cell 2
  have p3 := A.cell 3
  have p4 := A.cell 4
  have p5 := A.cell 5
  simp at p0 p1 p2 p3 p4 p5
  go_wp2_with fail
  refine (implSummary sb sn sf st si so _).mono ?_
  rintro e w3 ⟨v, rfl, O, hb⟩
  have hlt := A.lt
  replace A := A.kept hb
  replace B := B.trans (hb.mono B.size)
  have HF : Hid (foT (rHead 7 :: smL sb sn sf st si so) = (⟨sb, sn, sf, st, si, so⟩, true)) := fold_sum (s := ⟨sb, sn, sf, st, si, so⟩) hs 7 (by omega)
  have hk := smR_ok hs
  rw [← smL_ok (s := ⟨sb, sn, sf, st, si, so⟩) hs] at hk
  obtain ⟨l, hl'⟩ : ∃ l, l = smL sb sn sf st si so := ⟨_, rfl⟩
  rw [← hl'] at O HF
  have hk' : (∀ r ∈ l, r.Ok) ∧ l.length ≤ 5 ∧ 1 ≤ l.length := by rw [hl']; exact hk
  obtain ⟨hall, hl5, hl1⟩ := hk'
  have HA : Hid (foAll l) := all_of hall
  obtain ⟨va, vc, rfl, _, hRs⟩ := Rs.own O
  have HRs : Hid (Rs w3 va l.length vc l) := hRs
  obtain ⟨m, hm⟩ : ∃ m, m = l.length := ⟨_, rfl⟩
  have HM : Hid (m = l.length) := hm
  rw [← hm] at O hl5 hl1 HRs ⊢
  have hl5' : (m : Int) ≤ 5 := by omega
  obtain ⟨lo, hlo⟩ : ∃ lo, lo = X.heap.size := ⟨_, rfl⟩
  rw [← hlo] at O
  have HO : Hid _ := O
  have z3 := hb.size
  have hG3 : G < w3.heap.size := by omega
  clear hb hk hall hl' hRs O hm hlo z3 hlt p0 p1 p2 p3 p4 p5
  have HL : Hid ((w3.alloc (.cells #[.int .i64 1, .int .i64 0, .int .i64 7, .int .i64 0] 29)).ownsRow w3.heap.size 29 4 (.slice (some ⟨w3.heap.size, 0, none⟩) 1 1) 1 (FL [rHead 7])) :=
    World.ownsRow_lit w3 #[.int .i64 1, .int .i64 0, .int .i64 7, .int .i64 0] 1 (Nat.le_refl _) (by unfold maxLen; omega) rfl
  go_wp2_with (at_builtin; refine wpl_append_rs rfl _ _ rfl w3.heap.size (.slice (some ⟨w3.heap.size, 0, none⟩) 1 1) 1 [rHead 7] rfl va m vc l rfl HL.out (HRs.out.below ((Below.refl _ _).alloc (Nat.le_refl _) _)) (by omega) (by simp) ?_)
  intro v4 w4 O4 g4
  obtain ⟨ya, yc, rfl, _, hY⟩ := Rs.own O4
  have HY : Hid (Rs w4 ya (1 + m) yc (rHead 7 :: l)) := hY
  replace A := arr_p (A.alloc (.cells #[.int .i64 1, .int .i64 0, .int .i64 7, .int .i64 0] 29)) g4 (by show G ≠ w3.heap.size; omega)
  replace B := (B.alloc B.size (.cells #[.int .i64 1, .int .i64 0, .int .i64 7, .int .i64 0] 29)).grown g4 (by have := B.size; simp; omega) (fun k hk => by have := B.size; injection hk with hk; simp only at hk; omega)
  replace HO : Hid (w4.ownsRow lo 29 4 (.slice va m vc) m (FL l)) := (World.ownsRow.alloc HO.out _).kept g4 (by
    cases hv : Value.ownBlock (.slice va m vc) with
    | none => exact .inl rfl
    | some j => exact .inr (fun e => by have := (World.ownsRow.lt HO.out j hv).2; simp only [Value.ownBlock, Option.some.injEq] at e; omega))
  clear O4 g4 hY HL HRs hG3
  go_wp2_with fail
  refine (implFold ya (1 + m) yc (rHead 7 :: l) _ HY.out (by omega)).mono ?_
  rintro e w5 ⟨rfl, hb⟩
  rw [HF.out]
  replace A := A.kept hb
  replace B := B.trans (hb.mono B.size)
  replace HO : Hid (w5.ownsRow lo 29 4 (.slice va m vc) m (FL l)) := own_below HO.out hb
  clear hb HY HF
  dsimp only [stV, btW]
  obtain ⟨Y, hY⟩ : ∃ Y, Y = w5.alloc (.cells #[.int .i64 sb, .int .i64 sn, .int .i64 sf, .bool st, .int .i64 si, .int .i64 so] 35) := ⟨_, rfl⟩
  have C : Arr Y w5.heap.size 35 [.int .i64 sb, .int .i64 sn, .int .i64 sf, .bool st, .int .i64 si, .int .i64 so] := by rw [hY]; exact Arr.new _ _ _
  replace A : Arr Y G 35 [.int .i64 sb, .int .i64 sn, .int .i64 sf, .bool st, .int .i64 si, .int .i64 so] := by rw [hY]; exact A.alloc _
  replace B : Below w.heap.size w Y := by rw [hY]; exact B.alloc B.size _
  replace HO : Hid (Y.ownsRow lo 29 4 (.slice va m vc) m (FL l)) := by unfold Hid; rw [hY]; exact World.ownsRow.alloc HO.out _
  obtain ⟨H, hH⟩ : ∃ H, H = w5.heap.size := ⟨_, rfl⟩
  rw [← hH] at C
  go_upto_region 7 with fail
  rw [← hY]
  rw [← hH]
  clear hY hH
  go_wp2
  go_loopw [9] (fun i wr => ∃ k : Nat, k ≤ m ∧ i = .int .i64 k ∧ Arr wr G 35 [.int .i64 sb, .int .i64 sn, .int .i64 sf, .bool st, .int .i64 si, .int .i64 so] ∧ Arr wr H 35 [.int .i64 sb, .int .i64 sn, .int .i64 sf, .bool st, .int .i64 si, .int .i64 so] ∧ Hid (wr.ownsRow lo 29 4 (.slice va m vc) m (FL l)) ∧ Below w.heap.size w wr) (fun i _ => m - (intOf i).toNat)
  case atStart => exact ⟨0, by omega, rfl, A, C, HO, B⟩
  case round =>
    clear A C HO B
    obtain ⟨k, hk, rfl, A, C, HO, B⟩ := hrel
    by_cases hlt : k < m
    · obtain ⟨b, o, rfl, hbs, hcell⟩ := (rs_of_own HO.out).opened (by omega)
      have hr := hcell k hlt
      have hok := HA.out k (by rw [← HM.out]; exact hlt)
      obtain ⟨r, er⟩ : ∃ r, r = rg l k := ⟨_, rfl⟩
      rw [← er] at hr hok
      clear er hcell
      obtain ⟨rk, rb, rn, rf⟩ := r
      obtain ⟨c0, c1, c2, c3⟩ := hr
      dsimp only at c0 c1 c2 c3
      dsimp only [Rc.Ok] at hok
      have hltI : (k : Int) < (m : Int) := by omega
      go_wp2_with fail
      refine (implRecOk rk rb rn rf _).mono ?_
      rintro e w6 ⟨rfl, hb⟩
      rw [decide_eq_true hok]
      replace A := A.kept hb
      replace C := C.kept hb
      replace B := B.trans (hb.mono B.size)
      replace HO : Hid (w6.ownsRow lo 29 4 (.slice (some ⟨b, o, none⟩) m vc) m (FL l)) := own_below HO.out hb
      clear hb c0 c1 c2 c3 hbs hok
      have hw : IntKind.i64.wrap ((k : Int) + 1) = (k : Int) + 1 := wr64 (by omega) (by omega)
      go_wp2
      go_roundw
      case rel => exact ⟨k + 1, by omega, by go_num, A, C, HO, B⟩
      case measure => simp [intOf]; omega
    · have hltI : ¬ ((k : Int) < (m : Int)) := by omega
      clear HO HA
      have p0 := A.cell 0
      have p1 := A.cell 1
      have p2 := A.cell 2
      have p3 := A.cell 3
      have p4 := A.cell 4
      have p5 := A.cell 5
      simp at p0 p1 p2 p3 p4 p5
      go_wp2_with fail
      refine (implBootOk sb sn sf st si so _).mono ?_
      rintro e w6 ⟨rfl, hb⟩
      rw [decide_eq_true hs]
      replace A := A.kept hb
      replace C := C.kept hb
      replace B := B.trans (hb.mono B.size)
      clear hb p0 p1 p2 p3 p4 p5
      have p0 := A.cell 0
      have p1 := A.cell 1
      have p2 := A.cell 2
      have p3 := A.cell 3
      have p4 := A.cell 4
      have p5 := A.cell 5
      simp at p0 p1 p2 p3 p4 p5
      have q0 := C.cell 0
      have q1 := C.cell 1
      have q2 := C.cell 2
      have q3 := C.cell 3
      have q4 := C.cell 4
      have q5 := C.cell 5
      simp at q0 q1 q2 q3 q4 q5
      go_wp2_with fail
      refine (implLogs _).mono ?_
      rintro e w7 ⟨rfl, hb⟩
      replace B := B.trans (hb.mono B.size)
      clear hb A C p0 p1 p2 p3 p4 p5 q0 q1 q2 q3 q4 q5
      go_wp2
      go_ret
      exact ⟨rfl, B⟩
end Go.Proofs.Ytjceajgefpinpaa

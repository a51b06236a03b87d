/-
  What is proved here: the contract of the specification's ShaAdd, for every value and every slice of at most 2^20 elements.
-/
import Derived.Test.YtgapfkiceolceaaDoorSa
namespace Go.Proofs.YtgapfkiceolceaaDoor
set_option maxRecDepth 100000
open Go.RowKit

theorem ShaIs.below {w W W' : World} {v : Value} {hs ts : List Int} {N : Int} (h : ShaIs w W v hs N ts) (hb : Below W.heap.size W W') : ShaIs w W' v hs N ts := by
  obtain ⟨aH, cH, aT, cT, e, o⟩ := h
  exact ⟨aH, cH, aT, cT, e, own_below o.oh hb, own_below o.ot hb, o.ap⟩
/-- A new Sha is written into a cell that was there. -/
theorem ShaIs.put {w w1 W : World} {v : Value} {hs ts : List Int} {N : Int} (h : ShaIs w1 W v hs N ts) (g : Nat) (hg : g < w1.heap.size) (hw : w.heap.size ≤ w1.heap.size) (v0 v1 v2 : Value) :
    ShaIs w (((W.setCell ⟨g, 0, none⟩ v0).setCell ⟨g, 1, none⟩ v1).setCell ⟨g, 2, none⟩ v2) v hs N ts := by
  obtain ⟨aH, cH, aT, cT, e, o⟩ := h
  exact ⟨aH, cH, aT, cT, e, own_base (own_other (own_other (own_other o.oh ⟨g, 0, none⟩ v0 hg) ⟨g, 1, none⟩ v1 hg) ⟨g, 2, none⟩ v2 hg) hw, own_base (own_other (own_other (own_other o.ot ⟨g, 0, none⟩ v0 hg) ⟨g, 1, none⟩ v1 hg) ⟨g, 2, none⟩ v2 hg) hw, o.ap⟩

set_option maxHeartbeats 1000000 in
theorem specShaAdd (aH : Option Addr) (nH cH : Nat) (N : Int) (aT : Option Addr) (nT cT : Nat) (hs ts : List Int) (ab : Option Addr) (nb cb : Nat) (bs : List Int) (w : World) (hH : Is w aH nH cH hs) (hT : Bs w aT nT cT ts) (hB : Bs w ab nb cb bs) (hn : nH ≤ 2097152) (hm : nT ≤ 1048576) (hnb : nb ≤ 1048576) :
    Calls Tryd.prog 45 #[shaV aH nH cH N aT nT cT, .slice ab nb cb] w fun e w' => ∃ v, e = .returned (.tuple #[v, .bool (addOk hs N ts bs)]) ∧ ShaIs w w' v (addH hs N ts bs) (addN hs N ts bs) (addT hs N ts bs) ∧ Below w.heap.size w w' := by
  have hhl := hH.2.1
  have hbl := hB.2.1
  obtain ⟨W, hW⟩ : ∃ W, W = (w.alloc (.cells #[.slice aH nH cH, .int .i64 N, .slice aT nT cT] 27)).alloc (.cells #[.slice none 0 0, .int .i64 0, .slice none 0 0] 27) := ⟨_, rfl⟩
  have B0 : Below w.heap.size w W := by rw [hW]; exact ((Below.refl _ _).alloc (Nat.le_refl _) _).alloc (by simp) _
  have A2 : Arr W w.heap.size 27 [.slice aH nH cH, .int .i64 N, .slice aT nT cT] := by rw [hW]; exact (Arr.new _ _ _).alloc _
  have A4 : Arr W (w.heap.size + 1) 27 [.slice none 0 0, .int .i64 0, .slice none 0 0] := by
    rw [hW]
    have := Arr.new (w.alloc (.cells #[.slice aH nH cH, .int .i64 N, .slice aT nT cT] 27)) [.slice none 0 0, .int .i64 0, .slice none 0 0] 27
    rw [show (w.alloc (.cells #[.slice aH nH cH, .int .i64 N, .slice aT nT cT] 27)).heap.size = w.heap.size + 1 by simp] at this
    exact this
  go_enter Tryd.func45, Tryd.ntmps45
  go_wp2_with fail
  rw [show (w.alloc (.cells #[.slice aH nH cH, .int .i64 N, .slice aT nT cT] 27)).alloc (.cells #[.slice none 0 0, .int .i64 0, .slice none 0 0] 27) = W from hW.symm]
  refine (specShaOk aH nH cH N aT nT cT hs ts _ (hH.below B0) (hT.below B0) hn).mono ?_
  rintro e w1 ⟨rfl, hb1⟩
  have B1 := B0.trans (hb1.mono B0.size)
  have C2 := A2.kept hb1
  have C4 := A4.kept hb1
  clear A2 A4 B0 hW hb1
  obtain ⟨q, hq⟩ : ∃ q, q = shaOk hs N ts := ⟨_, rfl⟩
  rw [← hq]
  have hq' : q = false ∨ q = true := by cases q <;> simp
  have HQ : Hid _ := hq
  clear hq
  have hsz1 := B1.size
  have hl4 := C4.lt
  have e0 := C2.cell 0
  have e1 := C2.cell 1
  have e2 := C2.cell 2
  have f0 := C4.cell 0
  have f1 := C4.cell 1
  have f2 := C4.cell 2
  have ff := C4.frozen
  simp at e0 e1 e2 f0 f1 f2
  have no : ∀ v0 v1 v2, Arr (((w1.setCell ⟨w.heap.size + 1, 0, none⟩ v0).setCell ⟨w.heap.size + 1, 1, none⟩ v1).setCell ⟨w.heap.size + 1, 2, none⟩ v2) (w.heap.size + 1) 27 [v0, v1, v2] := fun v0 v1 v2 => ((C4.set 0 v0).set 1 v1).set 2 v2
  have nb' : ∀ v0 v1 v2, Below w.heap.size w (((w1.setCell ⟨w.heap.size + 1, 0, none⟩ v0).setCell ⟨w.heap.size + 1, 1, none⟩ v1).setCell ⟨w.heap.size + 1, 2, none⟩ v2) := fun v0 v1 v2 =>
    ((B1.setCell (p := ⟨w.heap.size + 1, 0, none⟩) (by simp) v0).setCell (p := ⟨w.heap.size + 1, 1, none⟩) (by simp) v1).setCell (p := ⟨w.heap.size + 1, 2, none⟩) (by simp) v2
  have NO : Hid _ := no
  have NB : Hid _ := nb'
  clear no nb'
  have HSZ : (Tryd.prog.info? 27).map (·.size) = some 3 := by kernel_rfl
  rcases hq' with rfl | rfl
  · have ho : addOk hs N ts bs = false := by unfold addOk; rw [← HQ.out]; rfl
    have HO : Hid _ := ho
    clear ho C2 C4
    go_wp2
    refine bodyPost_ret (results_row_tmp (v := .bool false) rfl rfl rfl (NO.out _ _ _) Tryd.underlying27 rfl HSZ) rfl ⟨_, by rw [HO.out], ?_, NB.out _ _ _⟩
    unfold addH addN addT
    rw [HO.out]
    exact shaIs_nil _ _
  obtain ⟨hisW, hN1, hN2, _⟩ : isW hs = true ∧ 0 ≤ N ∧ N ≤ 20000 ∧ (ts.length : Int) = N % 64 := by
    have hN := HQ.out
    unfold shaOk at hN
    simp only [Bool.true_eq, Bool.and_eq_true, decide_eq_true_eq] at hN
    exact ⟨hN.1, hN.2.1, hN.2.2.1, hN.2.2.2⟩
  by_cases hgt : 20000 - N < (nb : Int)
  · have ho : addOk hs N ts bs = false := by unfold addOk; rw [← HQ.out]; simp; omega
    have HO : Hid _ := ho
    clear ho C2 C4
    go_wp2
    refine bodyPost_ret (results_row_tmp (v := .bool false) rfl rfl rfl (NO.out _ _ _) Tryd.underlying27 rfl HSZ) rfl ⟨_, by rw [HO.out], ?_, NB.out _ _ _⟩
    unfold addH addN addT
    rw [HO.out]
    exact shaIs_nil _ _
  have ho : addOk hs N ts bs = true := by unfold addOk; rw [← HQ.out]; simp; omega
  have HO : Hid _ := ho
  obtain ⟨h8, hwd⟩ := (isW_iff hs).1 hisW
  have hn8 : nH = 8 := by omega
  subst hn8
  have HWD : Hid _ := hwd
  clear ho hisW hwd NO NB
  go_wp2_with fail
  refine (specAdd aH cH N aT nT cT hs ts ab nb cb bs _ (hH.below B1) HWD.out (hT.below B1) (hB.below B1) hN1 hN2 hm hnb).mono ?_
  rintro e w2 ⟨v2, rfl, s2, b2⟩
  have B2 := B1.trans (b2.mono B1.size)
  have D4 := C4.kept b2
  clear e0 e1 e2 f0 f1 f2 ff C2 C4
  obtain ⟨a5, c5, a6, c6, hv2, o5⟩ := s2
  have s2' : ShaIs w1 w2 v2 (allB hs (ts ++ bs)) (N + bs.length) (restB (ts ++ bs)) := ⟨a5, c5, a6, c6, hv2, o5⟩
  have hAL : (allB hs (ts ++ bs)).length = 8 := fld_len h8 _ _
  rw [hAL] at hv2
  obtain ⟨m, hm'⟩ : ∃ m, m = (restB (ts ++ bs)).length := ⟨_, rfl⟩
  obtain ⟨M, hM'⟩ : ∃ M, M = N + (bs.length : Int) := ⟨_, rfl⟩
  rw [← hm', ← hM'] at hv2
  clear o5 hAL hm'
  have f0 := D4.cell 0
  have f1 := D4.cell 1
  have f2 := D4.cell 2
  have ff := D4.frozen
  simp at f0 f1 f2
  have P4 : Hid _ := ((D4.set 0 (.slice a5 8 c5)).set 1 (.int .i64 M)).set 2 (.slice a6 m c6)
  have FR : Hid _ := ((B2.setCell (p := ⟨w.heap.size + 1, 0, none⟩) (by simp) (.slice a5 8 c5)).setCell (p := ⟨w.heap.size + 1, 1, none⟩) (by simp) (.int .i64 M)).setCell (p := ⟨w.heap.size + 1, 2, none⟩) (by simp) (.slice a6 m c6)
  have SI : Hid _ := s2'.put (w := w) (w.heap.size + 1) hl4 hsz1 (.slice a5 8 c5) (.int .i64 M) (.slice a6 m c6)
  have HM : Hid _ := hM'
  have HV : Hid _ := hv2
  rw [show v2 = Value.agg #[.slice a5 8 c5, .int .i64 M, .slice a6 m c6] from hv2]
  clear s2' D4 B2 hM' hv2
  go_wp2
  refine bodyPost_ret (results_row_tmp (v := .bool true) (cs := [.slice a5 8 c5, .int .i64 M, .slice a6 m c6]) rfl rfl rfl P4.out Tryd.underlying27 rfl HSZ) rfl ⟨_, by rw [HO.out], ?_, FR.out⟩
  unfold addH addN addT
  rw [HO.out, show Value.agg [.slice a5 8 c5, .int .i64 M, .slice a6 m c6].toArray = v2 from HV.out.symm]
  exact SI.out
end Go.Proofs.YtgapfkiceolceaaDoor

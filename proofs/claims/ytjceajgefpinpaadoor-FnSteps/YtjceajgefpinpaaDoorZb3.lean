/-
  What is proved here: what draws of a state, and of a state with a record, answer.
-/
import Derived.Test.YtjceajgefpinpaaDoorJP5
import Derived.Test.YtjceajgefpinpaaDoorJP11
import Derived.Deep.CutRange
import Derived.Deep.RegionHeld3
import Derived.BigRegion
namespace Go.Proofs.YtjceajgefpinpaaDoor
open Go.RowKit
set_option maxRecDepth 100000
set_option maxHeartbeats 4000000
set_option linter.unusedVariables false

theorem results_twoZ {P : Program} {fn : Func} {p q : Tmp} {ty tz : TypeId} {w : World} {g k : Nat} {t s : TypeId} {cs ds : List Value} {d d' : TypeDesc} {tmps : Array Value} (h : fn.results = #[.cell p ty, .cell q tz])
    (hp : tmps.getD p undef = .pointer (some ⟨g, 0, none⟩)) (hq : tmps.getD q undef = .pointer (some ⟨k, 0, none⟩)) (hg : Arr w g t cs) (hk : Arr w k s ds) (hu : P.underlying ty = some d) (hd : (match d with | .struct _ | .array _ _ => true | _ => false) = true) (hu' : P.underlying tz = some d') (hd' : (match d' with | .struct _ | .array _ _ => true | _ => false) = true) (hi : (P.info? ty).map (·.size) = some cs.length) (hj : (P.info? tz).map (·.size) = some ds.length) :
    (results fn tmps).run P w = .ok (.tuple #[.agg cs.toArray, .agg ds.toArray]) w := by
  have hl := run_loadVar_row (P := P) w g t ty cs.toArray (0, 0) d hg hu hd (by simpa using hi)
  have hm := run_loadVar_row (P := P) w k s tz ds.toArray (0, 0) d' hk hu' hd' (by simpa using hj)
  have hp' : tmps[p]?.getD undef = .pointer (some ⟨g, 0, none⟩) := by simpa using hp
  have hq' : tmps[q]?.getD undef = .pointer (some ⟨k, 0, none⟩) := by simpa using hq
  simp only [results, h]
  simp [Sem.run_bind, hp', hq', asAddr, Result.andThen, hl, hm]
theorem curBoot (p : Nat) (a : Option Addr) (n c : Nat) (xs : List Int) (w : World) (hcur : Cur w p a n c) (hcode : Coded w p a n c xs) :
    Calls Tryd.prog 40 #[.pointer (some ⟨p, 0, none⟩)] w fun e w' => ∃ s : Bt, e = .returned (btV s.b s.n s.f s.t s.i s.o) ∧ Cur w' p a n c ∧ w.grownBy w' (some p) := by
  have hp0 := cur_lt hcur
  obtain ⟨V, hV⟩ : ∃ V, V = w.alloc (.cells #[.int .i64 0, .int .i64 0, .int .i64 0, .bool false, .int .i64 0, .int .i64 0] 35) := ⟨_, rfl⟩
  have AQ : Arr V w.heap.size 35 [.int .i64 0, .int .i64 0, .int .i64 0, .bool false, .int .i64 0, .int .i64 0] := by rw [hV]; exact Arr.new _ _ _
  have D : Dz0 w V p a n c := by rw [hV]; exact (show Dz0 w w p a n c from ⟨hcur, World.grownBy.refl _ _⟩).alloc _
  go_enter Tryd.func40, Tryd.ntmps40
  go_upto_region 1 with fail
  rw [← hV]
  clear hV hcur
  go_wp2_with fail
  refine (curList p a n c xs _ D.cu (hcode.grown D.gr)).mono ?_
  rintro e w1 ⟨L, v, rfl, ho, hok, h2, h10, hc, hg⟩
  obtain ⟨va, vc, rfl, _, hRs⟩ := Rs.own ho
  have HRs : Hid (Rs w1 va L.length vc L) := hRs
  have HOK : Hid (foAll L) := all_of hok
  replace D := D.draw hc hg
  replace AQ := arr_p AQ hg (by omega)
  clear ho hok hc hg hRs
  go_wp2_with fail
  refine (specL10fold va L.length vc L _ HRs.out (by omega) HOK.out).mono ?_
  rintro e w2 ⟨rfl, hb⟩
  replace D := D.below hb
  replace AQ := AQ.kept hb
  obtain ⟨S, hS⟩ : ∃ S, S = foL L := ⟨_, rfl⟩
  rw [← hS]
  clear hb hS HRs HOK
  obtain ⟨⟨sb, sn, sf, st, si, so⟩, q⟩ := S
  dsimp only [stV, btW]
  obtain ⟨X, hX⟩ : ∃ X, X = w2.alloc (.cells #[.int .i64 sb, .int .i64 sn, .int .i64 sf, .bool st, .int .i64 si, .int .i64 so] 35) := ⟨_, rfl⟩
  have AL : Arr X w2.heap.size 35 [.int .i64 sb, .int .i64 sn, .int .i64 sf, .bool st, .int .i64 si, .int .i64 so] := by rw [hX]; exact Arr.new _ _ _
  have lQ1 := AQ.lt
  replace D : Dz0 w X p a n c := by rw [hX]; exact D.alloc _
  replace AQ : Arr X w.heap.size 35 [.int .i64 0, .int .i64 0, .int .i64 0, .bool false, .int .i64 0, .int .i64 0] := by rw [hX]; exact AQ.alloc _
  obtain ⟨G, hG⟩ : ∃ G, G = w2.heap.size := ⟨_, rfl⟩
  have hLq : w.heap.size < G := by rw [hG]; exact lQ1
  go_upto_region 2 with fail
  rw [← hX]
  rw [← hG] at AL ⊢
  clear hX hG lQ1
  have l0 := AL.cell 0
  have l1 := AL.cell 1
  have l2 := AL.cell 2
  have l3 := AL.cell 3
  have l4 := AL.cell 4
  have l5 := AL.cell 5
  simp at l0 l1 l2 l3 l4 l5
  have fQ := AQ.frozen
  have lQ := AQ.lt
  have q0 := AQ.cell 0
  have q1 := AQ.cell 1
  have q2 := AQ.cell 2
  have q3 := AQ.cell 3
  have q4 := AQ.cell 4
  have q5 := AQ.cell 5
  simp at q0 q1 q2 q3 q4 q5
  have HD : Hid _ := ((((((D.set (Nat.le_refl w.heap.size) hp0 0 (.int .i64 (sb))).set (Nat.le_refl w.heap.size) hp0 1 (.int .i64 (sn))).set (Nat.le_refl w.heap.size) hp0 2 (.int .i64 (sf))).set (Nat.le_refl w.heap.size) hp0 3 (.bool (st))).set (Nat.le_refl w.heap.size) hp0 4 (.int .i64 (si))).set (Nat.le_refl w.heap.size) hp0 5 (.int .i64 (so)))
  have HQ : Hid _ := set6 AQ (.int .i64 (sb)) (.int .i64 (sn)) (.int .i64 (sf)) (.bool (st)) (.int .i64 (si)) (.int .i64 (so))
  clear D AQ
  go_wp2
  exact bodyPost_ret (results_cell_row rfl _ _ w.heap.size 35 _ (0, 0) _ rfl HQ.out Tryd.underlying35 rfl (by kernel_rfl)) rfl ⟨⟨sb, sn, sf, st, si, so⟩, rfl, HD.out.cu, HD.out.gr⟩
theorem curBentBoot (p : Nat) (a : Option Addr) (n c : Nat) (xs : List Int) (w : World) (hcur : Cur w p a n c) (hcode : Coded w p a n c xs) :
    Calls Tryd.prog 30 #[.pointer (some ⟨p, 0, none⟩)] w fun e w' => ∃ s : Bt, e = .returned (btV s.b s.n s.f s.t s.i s.o) ∧ Cur w' p a n c ∧ w.grownBy w' (some p) := by
  have hp0 := cur_lt hcur
  obtain ⟨V, hV⟩ : ∃ V, V = w.alloc (.cells #[.int .i64 0, .int .i64 0, .int .i64 0, .bool false, .int .i64 0, .int .i64 0] 35) := ⟨_, rfl⟩
  have AQ : Arr V w.heap.size 35 [.int .i64 0, .int .i64 0, .int .i64 0, .bool false, .int .i64 0, .int .i64 0] := by rw [hV]; exact Arr.new _ _ _
  have D : Dz0 w V p a n c := by rw [hV]; exact (show Dz0 w w p a n c from ⟨hcur, World.grownBy.refl _ _⟩).alloc _
  go_enter Tryd.func30, Tryd.ntmps30
  go_upto_region 1 with fail
  rw [← hV]
  clear hV hcur
  go_wp2_with fail
  refine (curBoot p a n c xs _ D.cu (hcode.grown D.gr)).mono ?_
  rintro e w1 ⟨⟨sb, sn, sf, st, si, so⟩, rfl, hc, hg⟩
  replace D := D.draw hc hg
  replace AQ := arr_p AQ hg (by omega)
  dsimp only
  obtain ⟨X, hX⟩ : ∃ X, X = w1.alloc (.cells #[.int .i64 sb, .int .i64 sn, .int .i64 sf, .bool st, .int .i64 si, .int .i64 so] 35) := ⟨_, rfl⟩
  have AL : Arr X w1.heap.size 35 [.int .i64 sb, .int .i64 sn, .int .i64 sf, .bool st, .int .i64 si, .int .i64 so] := by rw [hX]; exact Arr.new _ _ _
  have lQ1 := AQ.lt
  replace D : Dz0 w X p a n c := by rw [hX]; exact D.alloc _
  replace AQ : Arr X w.heap.size 35 [.int .i64 0, .int .i64 0, .int .i64 0, .bool false, .int .i64 0, .int .i64 0] := by rw [hX]; exact AQ.alloc _
  obtain ⟨L, hL⟩ : ∃ L, L = w1.heap.size := ⟨_, rfl⟩
  have hLq : w.heap.size < L := by rw [hL]; exact lQ1
  go_upto_region 2 with fail
  rw [← hX]
  rw [← hL] at AL ⊢
  clear hX hL hc hg lQ1
  go_wp2_with fail
  refine (curOnce p a n c xs _ _ D.cu (hcode.grown D.gr) (by omega)).mono ?_
  rintro e w_q6 ⟨q6, rfl, hc, hg⟩
  replace D := D.draw hc hg
  replace AQ := arr_p AQ hg (by omega)
  replace AL := arr_p AL hg (by omega)
  clear hc hg
  cases q6
  case false =>
    have l0 := AL.cell 0
    have l1 := AL.cell 1
    have l2 := AL.cell 2
    have l3 := AL.cell 3
    have l4 := AL.cell 4
    have l5 := AL.cell 5
    simp at l0 l1 l2 l3 l4 l5
    have fQ := AQ.frozen
    have lQ := AQ.lt
    have q0 := AQ.cell 0
    have q1 := AQ.cell 1
    have q2 := AQ.cell 2
    have q3 := AQ.cell 3
    have q4 := AQ.cell 4
    have q5 := AQ.cell 5
    simp at q0 q1 q2 q3 q4 q5
    have HD : Hid _ := ((((((D.set (Nat.le_refl w.heap.size) hp0 0 (.int .i64 (sb))).set (Nat.le_refl w.heap.size) hp0 1 (.int .i64 (sn))).set (Nat.le_refl w.heap.size) hp0 2 (.int .i64 (sf))).set (Nat.le_refl w.heap.size) hp0 3 (.bool (st))).set (Nat.le_refl w.heap.size) hp0 4 (.int .i64 (si))).set (Nat.le_refl w.heap.size) hp0 5 (.int .i64 (so)))
    have HQ : Hid _ := set6 AQ (.int .i64 (sb)) (.int .i64 (sn)) (.int .i64 (sf)) (.bool (st)) (.int .i64 (si)) (.int .i64 (so))
    clear D AQ
    go_wp2
    exact bodyPost_ret (results_cell_row rfl _ _ w.heap.size 35 _ (0, 0) _ rfl HQ.out Tryd.underlying35 rfl (by kernel_rfl)) rfl ⟨⟨sb, sn, sf, st, si, so⟩, rfl, HD.out.cu, HD.out.gr⟩
  case true =>
    go_wp2_with fail
    refine (curBelow p a n c xs _ _ D.cu (hcode.grown D.gr) (by omega)).mono ?_
    rintro e w_y ⟨y, rfl, h0_y, h1_y, _, hc, hg⟩
    replace h1_y := h1_y (by omega)
    replace D := D.draw hc hg
    replace AQ := arr_p AQ hg (by omega)
    replace AL := arr_p AL hg (by omega)
    clear hc hg
    have hy : y = 0 ∨ y = 1 ∨ y = 2 ∨ y = 3 ∨ y = 4 ∨ y = 5 := by omega
    rcases hy with rfl | rfl | rfl | rfl | rfl | rfl
    · go_wp2_with fail
      refine (curBelow p a n c xs _ _ D.cu (hcode.grown D.gr) (by omega)).mono ?_
      rintro e w_z ⟨z, rfl, h0_z, h1_z, _, hc, hg⟩
      replace h1_z := h1_z (by omega)
      replace D := D.draw hc hg
      replace AQ := arr_p AQ hg (by omega)
      replace AL := arr_p AL hg (by omega)
      clear hc hg
      have l0 := AL.cell 0
      have l1 := AL.cell 1
      have l2 := AL.cell 2
      have l3 := AL.cell 3
      have l4 := AL.cell 4
      have l5 := AL.cell 5
      simp at l0 l1 l2 l3 l4 l5
      have fL := AL.frozen
      have lL := AL.lt
      go_upto_region 15 with fail
      obtain ⟨Y, hY⟩ : ∃ Y, Y = w_z.setCell ⟨L, 0, none⟩ (.int .i64 (z - 1)) := ⟨_, rfl⟩
      rw [← hY]
      replace D : Dz0 w Y p a n c := by rw [hY]; exact D.set (by omega) hp0 0 _
      replace AQ : Arr Y w.heap.size 35 [.int .i64 0, .int .i64 0, .int .i64 0, .bool false, .int .i64 0, .int .i64 0] := by rw [hY]; exact AQ.other ⟨L, 0, none⟩ _ (by show w.heap.size ≠ L; omega)
      replace AL : Arr Y L 35 [.int .i64 (z - 1), .int .i64 (sn), .int .i64 (sf), .bool (st), .int .i64 (si), .int .i64 (so)] := by rw [hY]; exact AL.set 0 _
      clear hY l0 l1 l2 l3 l4 l5 fL lL
      have l0 := AL.cell 0
      have l1 := AL.cell 1
      have l2 := AL.cell 2
      have l3 := AL.cell 3
      have l4 := AL.cell 4
      have l5 := AL.cell 5
      simp at l0 l1 l2 l3 l4 l5
      have fQ := AQ.frozen
      have lQ := AQ.lt
      have q0 := AQ.cell 0
      have q1 := AQ.cell 1
      have q2 := AQ.cell 2
      have q3 := AQ.cell 3
      have q4 := AQ.cell 4
      have q5 := AQ.cell 5
      simp at q0 q1 q2 q3 q4 q5
      have HD : Hid _ := ((((((D.set (Nat.le_refl w.heap.size) hp0 0 (.int .i64 (z - 1))).set (Nat.le_refl w.heap.size) hp0 1 (.int .i64 (sn))).set (Nat.le_refl w.heap.size) hp0 2 (.int .i64 (sf))).set (Nat.le_refl w.heap.size) hp0 3 (.bool (st))).set (Nat.le_refl w.heap.size) hp0 4 (.int .i64 (si))).set (Nat.le_refl w.heap.size) hp0 5 (.int .i64 (so)))
      have HQ : Hid _ := set6 AQ (.int .i64 (z - 1)) (.int .i64 (sn)) (.int .i64 (sf)) (.bool (st)) (.int .i64 (si)) (.int .i64 (so))
      clear D AQ
      go_wp2
      exact bodyPost_ret (results_cell_row rfl _ _ w.heap.size 35 _ (0, 0) _ rfl HQ.out Tryd.underlying35 rfl (by kernel_rfl)) rfl ⟨⟨z - 1, sn, sf, st, si, so⟩, rfl, HD.out.cu, HD.out.gr⟩
    · go_wp2_with fail
      have cl := cells_arr w_y [0, 1001] 3
      refine (curPick p a n c xs _ 2 [0, 1001] _ (cur_keep D.cu (grown_alloc _ _ none) (by simp)) ((hcode.grown D.gr).grown (grown_alloc _ _ _)) rfl (by omega) (by omega) (by have := cur_lt D.cu; omega) (fun j hj => cl j hj)).mono ?_
      rintro e w_z ⟨z, rfl, hm_z, hc, hg⟩
      simp at hm_z
      replace D := (D.alloc _).draw hc hg
      replace AQ := arr_p (AQ.alloc _) hg (by omega)
      replace AL := arr_p (AL.alloc _) hg (by omega)
      clear hc hg cl
      have l0 := AL.cell 0
      have l1 := AL.cell 1
      have l2 := AL.cell 2
      have l3 := AL.cell 3
      have l4 := AL.cell 4
      have l5 := AL.cell 5
      simp at l0 l1 l2 l3 l4 l5
      have fL := AL.frozen
      have lL := AL.lt
      go_upto_region 15 with fail
      obtain ⟨Y, hY⟩ : ∃ Y, Y = w_z.setCell ⟨L, 1, none⟩ (.int .i64 (z)) := ⟨_, rfl⟩
      rw [← hY]
      replace D : Dz0 w Y p a n c := by rw [hY]; exact D.set (by omega) hp0 1 _
      replace AQ : Arr Y w.heap.size 35 [.int .i64 0, .int .i64 0, .int .i64 0, .bool false, .int .i64 0, .int .i64 0] := by rw [hY]; exact AQ.other ⟨L, 1, none⟩ _ (by show w.heap.size ≠ L; omega)
      replace AL : Arr Y L 35 [.int .i64 (sb), .int .i64 (z), .int .i64 (sf), .bool (st), .int .i64 (si), .int .i64 (so)] := by rw [hY]; exact AL.set 1 _
      clear hY l0 l1 l2 l3 l4 l5 fL lL
      have l0 := AL.cell 0
      have l1 := AL.cell 1
      have l2 := AL.cell 2
      have l3 := AL.cell 3
      have l4 := AL.cell 4
      have l5 := AL.cell 5
      simp at l0 l1 l2 l3 l4 l5
      have fQ := AQ.frozen
      have lQ := AQ.lt
      have q0 := AQ.cell 0
      have q1 := AQ.cell 1
      have q2 := AQ.cell 2
      have q3 := AQ.cell 3
      have q4 := AQ.cell 4
      have q5 := AQ.cell 5
      simp at q0 q1 q2 q3 q4 q5
      have HD : Hid _ := ((((((D.set (Nat.le_refl w.heap.size) hp0 0 (.int .i64 (sb))).set (Nat.le_refl w.heap.size) hp0 1 (.int .i64 (z))).set (Nat.le_refl w.heap.size) hp0 2 (.int .i64 (sf))).set (Nat.le_refl w.heap.size) hp0 3 (.bool (st))).set (Nat.le_refl w.heap.size) hp0 4 (.int .i64 (si))).set (Nat.le_refl w.heap.size) hp0 5 (.int .i64 (so)))
      have HQ : Hid _ := set6 AQ (.int .i64 (sb)) (.int .i64 (z)) (.int .i64 (sf)) (.bool (st)) (.int .i64 (si)) (.int .i64 (so))
      clear D AQ
      go_wp2
      exact bodyPost_ret (results_cell_row rfl _ _ w.heap.size 35 _ (0, 0) _ rfl HQ.out Tryd.underlying35 rfl (by kernel_rfl)) rfl ⟨⟨sb, z, sf, st, si, so⟩, rfl, HD.out.cu, HD.out.gr⟩
    · go_wp2_with fail
      have cl := cells_arr w_y [-1, 1001] 3
      refine (curPick p a n c xs _ 2 [-1, 1001] _ (cur_keep D.cu (grown_alloc _ _ none) (by simp)) ((hcode.grown D.gr).grown (grown_alloc _ _ _)) rfl (by omega) (by omega) (by have := cur_lt D.cu; omega) (fun j hj => cl j hj)).mono ?_
      rintro e w_z ⟨z, rfl, hm_z, hc, hg⟩
      simp at hm_z
      replace D := (D.alloc _).draw hc hg
      replace AQ := arr_p (AQ.alloc _) hg (by omega)
      replace AL := arr_p (AL.alloc _) hg (by omega)
      clear hc hg cl
      have l0 := AL.cell 0
      have l1 := AL.cell 1
      have l2 := AL.cell 2
      have l3 := AL.cell 3
      have l4 := AL.cell 4
      have l5 := AL.cell 5
      simp at l0 l1 l2 l3 l4 l5
      have fL := AL.frozen
      have lL := AL.lt
      go_upto_region 15 with fail
      obtain ⟨Y, hY⟩ : ∃ Y, Y = w_z.setCell ⟨L, 2, none⟩ (.int .i64 (z)) := ⟨_, rfl⟩
      rw [← hY]
      replace D : Dz0 w Y p a n c := by rw [hY]; exact D.set (by omega) hp0 2 _
      replace AQ : Arr Y w.heap.size 35 [.int .i64 0, .int .i64 0, .int .i64 0, .bool false, .int .i64 0, .int .i64 0] := by rw [hY]; exact AQ.other ⟨L, 2, none⟩ _ (by show w.heap.size ≠ L; omega)
      replace AL : Arr Y L 35 [.int .i64 (sb), .int .i64 (sn), .int .i64 (z), .bool (st), .int .i64 (si), .int .i64 (so)] := by rw [hY]; exact AL.set 2 _
      clear hY l0 l1 l2 l3 l4 l5 fL lL
      have l0 := AL.cell 0
      have l1 := AL.cell 1
      have l2 := AL.cell 2
      have l3 := AL.cell 3
      have l4 := AL.cell 4
      have l5 := AL.cell 5
      simp at l0 l1 l2 l3 l4 l5
      have fQ := AQ.frozen
      have lQ := AQ.lt
      have q0 := AQ.cell 0
      have q1 := AQ.cell 1
      have q2 := AQ.cell 2
      have q3 := AQ.cell 3
      have q4 := AQ.cell 4
      have q5 := AQ.cell 5
      simp at q0 q1 q2 q3 q4 q5
      have HD : Hid _ := ((((((D.set (Nat.le_refl w.heap.size) hp0 0 (.int .i64 (sb))).set (Nat.le_refl w.heap.size) hp0 1 (.int .i64 (sn))).set (Nat.le_refl w.heap.size) hp0 2 (.int .i64 (z))).set (Nat.le_refl w.heap.size) hp0 3 (.bool (st))).set (Nat.le_refl w.heap.size) hp0 4 (.int .i64 (si))).set (Nat.le_refl w.heap.size) hp0 5 (.int .i64 (so)))
      have HQ : Hid _ := set6 AQ (.int .i64 (sb)) (.int .i64 (sn)) (.int .i64 (z)) (.bool (st)) (.int .i64 (si)) (.int .i64 (so))
      clear D AQ
      go_wp2
      exact bodyPost_ret (results_cell_row rfl _ _ w.heap.size 35 _ (0, 0) _ rfl HQ.out Tryd.underlying35 rfl (by kernel_rfl)) rfl ⟨⟨sb, sn, z, st, si, so⟩, rfl, HD.out.cu, HD.out.gr⟩
    · have l0 := AL.cell 0
      have l1 := AL.cell 1
      have l2 := AL.cell 2
      have l3 := AL.cell 3
      have l4 := AL.cell 4
      have l5 := AL.cell 5
      simp at l0 l1 l2 l3 l4 l5
      have fL := AL.frozen
      have lL := AL.lt
      go_upto_region 15 with fail
      obtain ⟨Y, hY⟩ : ∃ Y, Y = w_y.setCell ⟨L, 3, none⟩ (.bool (!st)) := ⟨_, rfl⟩
      rw [← hY]
      replace D : Dz0 w Y p a n c := by rw [hY]; exact D.set (by omega) hp0 3 _
      replace AQ : Arr Y w.heap.size 35 [.int .i64 0, .int .i64 0, .int .i64 0, .bool false, .int .i64 0, .int .i64 0] := by rw [hY]; exact AQ.other ⟨L, 3, none⟩ _ (by show w.heap.size ≠ L; omega)
      replace AL : Arr Y L 35 [.int .i64 (sb), .int .i64 (sn), .int .i64 (sf), .bool (!st), .int .i64 (si), .int .i64 (so)] := by rw [hY]; exact AL.set 3 _
      clear hY l0 l1 l2 l3 l4 l5 fL lL
      have l0 := AL.cell 0
      have l1 := AL.cell 1
      have l2 := AL.cell 2
      have l3 := AL.cell 3
      have l4 := AL.cell 4
      have l5 := AL.cell 5
      simp at l0 l1 l2 l3 l4 l5
      have fQ := AQ.frozen
      have lQ := AQ.lt
      have q0 := AQ.cell 0
      have q1 := AQ.cell 1
      have q2 := AQ.cell 2
      have q3 := AQ.cell 3
      have q4 := AQ.cell 4
      have q5 := AQ.cell 5
      simp at q0 q1 q2 q3 q4 q5
      have HD : Hid _ := ((((((D.set (Nat.le_refl w.heap.size) hp0 0 (.int .i64 (sb))).set (Nat.le_refl w.heap.size) hp0 1 (.int .i64 (sn))).set (Nat.le_refl w.heap.size) hp0 2 (.int .i64 (sf))).set (Nat.le_refl w.heap.size) hp0 3 (.bool (!st))).set (Nat.le_refl w.heap.size) hp0 4 (.int .i64 (si))).set (Nat.le_refl w.heap.size) hp0 5 (.int .i64 (so)))
      have HQ : Hid _ := set6 AQ (.int .i64 (sb)) (.int .i64 (sn)) (.int .i64 (sf)) (.bool (!st)) (.int .i64 (si)) (.int .i64 (so))
      clear D AQ
      go_wp2
      exact bodyPost_ret (results_cell_row rfl _ _ w.heap.size 35 _ (0, 0) _ rfl HQ.out Tryd.underlying35 rfl (by kernel_rfl)) rfl ⟨⟨sb, sn, sf, !st, si, so⟩, rfl, HD.out.cu, HD.out.gr⟩
    · go_wp2_with fail
      have cl := cells_arr w_y [-1, 1, 3, 4] 3
      refine (curPick p a n c xs _ 4 [-1, 1, 3, 4] _ (cur_keep D.cu (grown_alloc _ _ none) (by simp)) ((hcode.grown D.gr).grown (grown_alloc _ _ _)) rfl (by omega) (by omega) (by have := cur_lt D.cu; omega) (fun j hj => cl j hj)).mono ?_
      rintro e w_z ⟨z, rfl, hm_z, hc, hg⟩
      simp at hm_z
      replace D := (D.alloc _).draw hc hg
      replace AQ := arr_p (AQ.alloc _) hg (by omega)
      replace AL := arr_p (AL.alloc _) hg (by omega)
      clear hc hg cl
      have l0 := AL.cell 0
      have l1 := AL.cell 1
      have l2 := AL.cell 2
      have l3 := AL.cell 3
      have l4 := AL.cell 4
      have l5 := AL.cell 5
      simp at l0 l1 l2 l3 l4 l5
      have fL := AL.frozen
      have lL := AL.lt
      go_upto_region 15 with fail
      obtain ⟨Y, hY⟩ : ∃ Y, Y = w_z.setCell ⟨L, 4, none⟩ (.int .i64 (z)) := ⟨_, rfl⟩
      rw [← hY]
      replace D : Dz0 w Y p a n c := by rw [hY]; exact D.set (by omega) hp0 4 _
      replace AQ : Arr Y w.heap.size 35 [.int .i64 0, .int .i64 0, .int .i64 0, .bool false, .int .i64 0, .int .i64 0] := by rw [hY]; exact AQ.other ⟨L, 4, none⟩ _ (by show w.heap.size ≠ L; omega)
      replace AL : Arr Y L 35 [.int .i64 (sb), .int .i64 (sn), .int .i64 (sf), .bool (st), .int .i64 (z), .int .i64 (so)] := by rw [hY]; exact AL.set 4 _
      clear hY l0 l1 l2 l3 l4 l5 fL lL
      have l0 := AL.cell 0
      have l1 := AL.cell 1
      have l2 := AL.cell 2
      have l3 := AL.cell 3
      have l4 := AL.cell 4
      have l5 := AL.cell 5
      simp at l0 l1 l2 l3 l4 l5
      have fQ := AQ.frozen
      have lQ := AQ.lt
      have q0 := AQ.cell 0
      have q1 := AQ.cell 1
      have q2 := AQ.cell 2
      have q3 := AQ.cell 3
      have q4 := AQ.cell 4
      have q5 := AQ.cell 5
      simp at q0 q1 q2 q3 q4 q5
      have HD : Hid _ := ((((((D.set (Nat.le_refl w.heap.size) hp0 0 (.int .i64 (sb))).set (Nat.le_refl w.heap.size) hp0 1 (.int .i64 (sn))).set (Nat.le_refl w.heap.size) hp0 2 (.int .i64 (sf))).set (Nat.le_refl w.heap.size) hp0 3 (.bool (st))).set (Nat.le_refl w.heap.size) hp0 4 (.int .i64 (z))).set (Nat.le_refl w.heap.size) hp0 5 (.int .i64 (so)))
      have HQ : Hid _ := set6 AQ (.int .i64 (sb)) (.int .i64 (sn)) (.int .i64 (sf)) (.bool (st)) (.int .i64 (z)) (.int .i64 (so))
      clear D AQ
      go_wp2
      exact bodyPost_ret (results_cell_row rfl _ _ w.heap.size 35 _ (0, 0) _ rfl HQ.out Tryd.underlying35 rfl (by kernel_rfl)) rfl ⟨⟨sb, sn, sf, st, z, so⟩, rfl, HD.out.cu, HD.out.gr⟩
    · go_wp2_with fail
      have cl := cells_arr w_y [-1, 0, 2] 3
      refine (curPick p a n c xs _ 3 [-1, 0, 2] _ (cur_keep D.cu (grown_alloc _ _ none) (by simp)) ((hcode.grown D.gr).grown (grown_alloc _ _ _)) rfl (by omega) (by omega) (by have := cur_lt D.cu; omega) (fun j hj => cl j hj)).mono ?_
      rintro e w_z ⟨z, rfl, hm_z, hc, hg⟩
      simp at hm_z
      replace D := (D.alloc _).draw hc hg
      replace AQ := arr_p (AQ.alloc _) hg (by omega)
      replace AL := arr_p (AL.alloc _) hg (by omega)
      clear hc hg cl
      have l0 := AL.cell 0
      have l1 := AL.cell 1
      have l2 := AL.cell 2
      have l3 := AL.cell 3
      have l4 := AL.cell 4
      have l5 := AL.cell 5
      simp at l0 l1 l2 l3 l4 l5
      have fL := AL.frozen
      have lL := AL.lt
      go_upto_region 15 with fail
      obtain ⟨Y, hY⟩ : ∃ Y, Y = w_z.setCell ⟨L, 5, none⟩ (.int .i64 (z)) := ⟨_, rfl⟩
      rw [← hY]
      replace D : Dz0 w Y p a n c := by rw [hY]; exact D.set (by omega) hp0 5 _
      replace AQ : Arr Y w.heap.size 35 [.int .i64 0, .int .i64 0, .int .i64 0, .bool false, .int .i64 0, .int .i64 0] := by rw [hY]; exact AQ.other ⟨L, 5, none⟩ _ (by show w.heap.size ≠ L; omega)
      replace AL : Arr Y L 35 [.int .i64 (sb), .int .i64 (sn), .int .i64 (sf), .bool (st), .int .i64 (si), .int .i64 (z)] := by rw [hY]; exact AL.set 5 _
      clear hY l0 l1 l2 l3 l4 l5 fL lL
      have l0 := AL.cell 0
      have l1 := AL.cell 1
      have l2 := AL.cell 2
      have l3 := AL.cell 3
      have l4 := AL.cell 4
      have l5 := AL.cell 5
      simp at l0 l1 l2 l3 l4 l5
      have fQ := AQ.frozen
      have lQ := AQ.lt
      have q0 := AQ.cell 0
      have q1 := AQ.cell 1
      have q2 := AQ.cell 2
      have q3 := AQ.cell 3
      have q4 := AQ.cell 4
      have q5 := AQ.cell 5
      simp at q0 q1 q2 q3 q4 q5
      have HD : Hid _ := ((((((D.set (Nat.le_refl w.heap.size) hp0 0 (.int .i64 (sb))).set (Nat.le_refl w.heap.size) hp0 1 (.int .i64 (sn))).set (Nat.le_refl w.heap.size) hp0 2 (.int .i64 (sf))).set (Nat.le_refl w.heap.size) hp0 3 (.bool (st))).set (Nat.le_refl w.heap.size) hp0 4 (.int .i64 (si))).set (Nat.le_refl w.heap.size) hp0 5 (.int .i64 (z)))
      have HQ : Hid _ := set6 AQ (.int .i64 (sb)) (.int .i64 (sn)) (.int .i64 (sf)) (.bool (st)) (.int .i64 (si)) (.int .i64 (z))
      clear D AQ
      go_wp2
      exact bodyPost_ret (results_cell_row rfl _ _ w.heap.size 35 _ (0, 0) _ rfl HQ.out Tryd.underlying35 rfl (by kernel_rfl)) rfl ⟨⟨sb, sn, sf, st, si, z⟩, rfl, HD.out.cu, HD.out.gr⟩
theorem drawStep (a : Option Addr) (n c : Nat) (xs : List Int) (w : World) (h : Bs w a n c xs) (hm : n ≤ 9223372036854775807) :
    Calls Tryd.prog 14 #[.slice a n c] w fun e w' => ∃ (s : Bt) (r : Rc), e = .returned (.tuple #[btV s.b s.n s.f s.t s.i s.o, rcV r.k r.b r.n r.f]) ∧ Below w.heap.size w w' := by
  obtain ⟨V, hV⟩ : ∃ V, V = (w.alloc (.cells #[.int .i64 0, .int .i64 0, .int .i64 0, .bool false, .int .i64 0, .int .i64 0] 35)).alloc (.cells #[.int .i64 0, .int .i64 0, .int .i64 0, .int .i64 0] 24) := ⟨_, rfl⟩
  have B0 : Below w.heap.size w V := by rw [hV]; exact ((Below.refl _ _).alloc (Nat.le_refl _) _).alloc (by simp) _
  have AQ : Arr V w.heap.size 35 [.int .i64 0, .int .i64 0, .int .i64 0, .bool false, .int .i64 0, .int .i64 0] := by rw [hV]; exact (Arr.new w [.int .i64 0, .int .i64 0, .int .i64 0, .bool false, .int .i64 0, .int .i64 0] 35).alloc _
  have AR : Arr V (w.heap.size + 1) 24 [.int .i64 0, .int .i64 0, .int .i64 0, .int .i64 0] := by
    rw [hV]
    have := Arr.new (w.alloc (.cells #[.int .i64 0, .int .i64 0, .int .i64 0, .bool false, .int .i64 0, .int .i64 0] 35)) [.int .i64 0, .int .i64 0, .int .i64 0, .int .i64 0] 24
    simpa using this
  have zV : w.heap.size + 2 ≤ V.heap.size := by rw [hV]; simp
  have HBs : Hid (Bs V a n c xs) := h.below B0
  go_enter Tryd.func14, Tryd.ntmps14
  go_upto_region 1 with fail
  rw [← hV]
  clear hV h
  go_wp2_with fail
  refine (curNew a n c xs _ HBs.out hm).mono ?_
  rintro e w1 ⟨rfl, hc1, hd1, hs1, hb1⟩
  obtain ⟨p, hp⟩ : ∃ p, p = V.heap.size := ⟨_, rfl⟩
  rw [← hp] at hc1 hd1 ⊢
  have hpz : w.heap.size + 2 ≤ p := by rw [hp]; exact zV
  have hcode := hd1
  have B1 : Below w.heap.size w w1 := B0.trans (hb1.mono B0.size)
  have D : Dz0 w1 w1 p a n c := ⟨hc1, World.grownBy.refl _ _⟩
  have hp0 := cur_lt hc1
  replace AQ := AQ.kept hb1
  replace AR := AR.kept hb1
  clear hc1 hd1 hs1 hb1 B0 hp zV HBs
  go_wp2_with fail
  refine (curBentBoot p a n c xs _ D.cu (hcode.grown D.gr)).mono ?_
  rintro e w2 ⟨⟨sb, sn, sf, st, si, so⟩, rfl, hc, hg⟩
  replace D := D.draw hc hg
  replace AQ := arr_p AQ hg (by omega)
  replace AR := arr_p AR hg (by omega)
  clear hc hg
  dsimp only
  go_wp2_with fail
  refine (curBentRec p a n c xs _ D.cu (hcode.grown D.gr)).mono ?_
  rintro e w3 ⟨⟨rk, rb, rn, rf⟩, rfl, _, hc, hg⟩
  replace D := D.draw hc hg
  replace AQ := arr_p AQ hg (by omega)
  replace AR := arr_p AR hg (by omega)
  clear hc hg
  dsimp only
  have B3 : Below w.heap.size w w3 := B1.grown D.gr B1.size (fun k hk => by injection hk with hk; omega)
  have fQ := AQ.frozen
  have lQ := AQ.lt
  have fR := AR.frozen
  have lR := AR.lt
  have q0 := AQ.cell 0
  have q1 := AQ.cell 1
  have q2 := AQ.cell 2
  have q3 := AQ.cell 3
  have q4 := AQ.cell 4
  have q5 := AQ.cell 5
  simp at q0 q1 q2 q3 q4 q5
  have r0 := AR.cell 0
  have r1 := AR.cell 1
  have r2 := AR.cell 2
  have r3 := AR.cell 3
  simp at r0 r1 r2 r3
  obtain ⟨Y, hY⟩ : ∃ Y, Y = ((((((w3.setCell ⟨w.heap.size, 0, none⟩ (.int .i64 (sb))).setCell ⟨w.heap.size, 1, none⟩ (.int .i64 (sn))).setCell ⟨w.heap.size, 2, none⟩ (.int .i64 (sf))).setCell ⟨w.heap.size, 3, none⟩ (.bool (st))).setCell ⟨w.heap.size, 4, none⟩ (.int .i64 (si))).setCell ⟨w.heap.size, 5, none⟩ (.int .i64 (so))) := ⟨_, rfl⟩
  have Y1 : Arr Y w.heap.size 35 [.int .i64 (sb), .int .i64 (sn), .int .i64 (sf), .bool (st), .int .i64 (si), .int .i64 (so)] := by rw [hY]; exact set6 AQ (.int .i64 (sb)) (.int .i64 (sn)) (.int .i64 (sf)) (.bool (st)) (.int .i64 (si)) (.int .i64 (so))
  have Y2 : Arr Y (w.heap.size + 1) 24 [.int .i64 0, .int .i64 0, .int .i64 0, .int .i64 0] := by rw [hY]; exact ((((((AR.other ⟨w.heap.size, 0, none⟩ _ (by show w.heap.size + 1 ≠ w.heap.size; omega)).other ⟨w.heap.size, 1, none⟩ _ (by show w.heap.size + 1 ≠ w.heap.size; omega)).other ⟨w.heap.size, 2, none⟩ _ (by show w.heap.size + 1 ≠ w.heap.size; omega)).other ⟨w.heap.size, 3, none⟩ _ (by show w.heap.size + 1 ≠ w.heap.size; omega)).other ⟨w.heap.size, 4, none⟩ _ (by show w.heap.size + 1 ≠ w.heap.size; omega)).other ⟨w.heap.size, 5, none⟩ _ (by show w.heap.size + 1 ≠ w.heap.size; omega))
  have BY : Below w.heap.size w Y := by rw [hY]; exact bel_set6 B3 (Nat.le_refl _) (.int .i64 (sb)) (.int .i64 (sn)) (.int .i64 (sf)) (.bool (st)) (.int .i64 (si)) (.int .i64 (so))
  have Y3 : Hid (Arr ((((Y.setCell ⟨w.heap.size + 1, 0, none⟩ (.int .i64 rk)).setCell ⟨w.heap.size + 1, 1, none⟩ (.int .i64 rb)).setCell ⟨w.heap.size + 1, 2, none⟩ (.int .i64 rn)).setCell ⟨w.heap.size + 1, 3, none⟩ (.int .i64 rf)) (w.heap.size + 1) 24 [.int .i64 rk, .int .i64 rb, .int .i64 rn, .int .i64 rf]) := set4z Y2 (.int .i64 rk) (.int .i64 rb) (.int .i64 rn) (.int .i64 rf)
  have Y4 : Hid (Arr ((((Y.setCell ⟨w.heap.size + 1, 0, none⟩ (.int .i64 rk)).setCell ⟨w.heap.size + 1, 1, none⟩ (.int .i64 rb)).setCell ⟨w.heap.size + 1, 2, none⟩ (.int .i64 rn)).setCell ⟨w.heap.size + 1, 3, none⟩ (.int .i64 rf)) w.heap.size 35 [.int .i64 (sb), .int .i64 (sn), .int .i64 (sf), .bool (st), .int .i64 (si), .int .i64 (so)]) := ((((Y1.other ⟨w.heap.size + 1, 0, none⟩ _ (by show w.heap.size ≠ w.heap.size + 1; omega)).other ⟨w.heap.size + 1, 1, none⟩ _ (by show w.heap.size ≠ w.heap.size + 1; omega)).other ⟨w.heap.size + 1, 2, none⟩ _ (by show w.heap.size ≠ w.heap.size + 1; omega)).other ⟨w.heap.size + 1, 3, none⟩ _ (by show w.heap.size ≠ w.heap.size + 1; omega))
  have BZ : Hid (Below w.heap.size w ((((Y.setCell ⟨w.heap.size + 1, 0, none⟩ (.int .i64 rk)).setCell ⟨w.heap.size + 1, 1, none⟩ (.int .i64 rb)).setCell ⟨w.heap.size + 1, 2, none⟩ (.int .i64 rn)).setCell ⟨w.heap.size + 1, 3, none⟩ (.int .i64 rf))) := ((((BY.setCell (p := ⟨w.heap.size + 1, 0, none⟩) (by simp) _).setCell (p := ⟨w.heap.size + 1, 1, none⟩) (by simp) _).setCell (p := ⟨w.heap.size + 1, 2, none⟩) (by simp) _).setCell (p := ⟨w.heap.size + 1, 3, none⟩) (by simp) _)
  rw [hY] at Y3 Y4 BZ
  clear Y1 Y2 BY hY AQ AR D B1 B3
  go_wp2
  exact bodyPost_ret (results_twoZ rfl rfl rfl Y4.out Y3.out Tryd.underlying35 rfl Tryd.underlying24 rfl (by kernel_rfl) (by kernel_rfl)) rfl ⟨⟨sb, sn, sf, st, si, so⟩, ⟨rk, rb, rn, rf⟩, rfl, BZ.out⟩
end Go.Proofs.YtjceajgefpinpaaDoor

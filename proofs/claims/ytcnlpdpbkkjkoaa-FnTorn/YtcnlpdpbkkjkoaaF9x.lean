/-
  What is proved here: what the program's sectorOf, TornErase and Erase answer.
-/
import Derived.Test.YtcnlpdpbkkjkoaaF9n
namespace Go.Proofs.Ytcnlpdpbkkjkoaa
set_option maxRecDepth 100000
set_option maxHeartbeats 4000000
open Go.RowKit
set_option linter.unusedVariables false

theorem implSectorOf (g nB c : Nat) (aW : Option Addr) (nW cW : Nat) (S : Nat) (w : World) (h1 : S * 64 + 64 ≤ nB) (h2 : nB ≤ c) (h3 : nB ≤ 2097152) :
    Calls Try.prog 61 #[flV (some ⟨g, 0, none⟩) nB c aW nW cW, .int .i64 S] w fun e w' => e = .returned (.slice (some ⟨g, S * 64, none⟩) 64 (c - S * 64)) ∧ Below w.heap.size w w' := by
  have HB : Hid (Below w.heap.size w (w.alloc (.cells #[.slice (some ⟨g, 0, none⟩) nB c, .slice aW nW cW] 25))) := (Below.refl _ _).alloc (Nat.le_refl _) _
  have w1 : IntKind.i64.wrap ((S : Int) * 64) = (S : Int) * 64 := by rw [IntKind.wrap_i64]; omega
  have w2 : IntKind.i64.wrap ((S : Int) * 64 + 64) = (S : Int) * 64 + 64 := by rw [IntKind.wrap_i64]; omega
  have hne : c ≠ S * 64 := by omega
  have t1 : ((S : Int) * 64).toNat = S * 64 := by omega
  have t2 : ((S : Int) * 64 + 64).toNat = S * 64 + 64 := by omega
  have b1 : (0 : Int) ≤ (S : Int) * 64 := by omega
  have b2 : (0 : Int) ≤ (S : Int) * 64 + 64 := by omega
  have b3 : (S : Int) * 64 ≤ (S : Int) * 64 + 64 := by omega
  have b4 : (S : Int) * 64 + 64 ≤ (c : Int) := by omega
  go_enter Try.func61, Try.ntmps61
  go_wp2
  go_ret
  exact ⟨by simp, HB.out⟩
theorem erb_of (zs ms : List Int) (n : Nat) (hz : zs = List.replicate n 255) (i : Nat) (hi : i < n) (b : Int) : bits .or .u8 b (bits .and .u8 (zs.getD i 0) (mk ms i)) = ef ms i b := by
  have e : zs.getD i 0 = 255 := by rw [hz]; simp [hi]
  rw [e, erb_eq]
  rfl

theorem tornErase_i (aB : Option Addr) (nB cB : Nat) (aW : Option Addr) (nW cW : Nat) (bs ws : List Int) (i : Int) (am : Option Addr) (nm cm : Nat) (ms : List Int) (w : World) (hB : Bs w aB nB cB bs) (hW : Is w aW nW cW ws) (hn : nB ≤ 2097152) (hm : nW ≤ 2097152) (hl : -9223372036854775808 ≤ i) (hu : i ≤ 9223372036854775807) (hmm : Bs w am nm cm ms) (hmn : nm ≤ 2097152) :
    Calls Try.prog 29 #[flV aB nB cB aW nW cW, .int .i64 i, .slice am nm cm] w fun e w' => ∃ v, e = .returned (.tuple #[v, .int .i64 (teC bs ws i ms)]) ∧ IsFl w w' v (teB bs ws i ms) (teW bs ws i ms) ∧ Below w.heap.size w w' := by
  obtain ⟨V, hV⟩ : ∃ V, V = (w.alloc (.cells #[.slice aB nB cB, .slice aW nW cW] 25)).alloc (.cells #[.slice none 0 0, .slice none 0 0] 25) := ⟨_, rfl⟩
  have B : Below w.heap.size w V := by rw [hV]; exact ((Below.refl _ _).alloc (Nat.le_refl _) _).alloc (by simp) _
  have A0 : Arr V w.heap.size 25 [.slice aB nB cB, .slice aW nW cW] := by rw [hV]; exact (Arr.new w _ _).alloc _
  have A1 : Arr V (w.heap.size + 1) 25 [.slice none 0 0, .slice none 0 0] := by
    rw [hV]
    have := Arr.new (w.alloc (.cells #[.slice aB nB cB, .slice aW nW cW] 25)) [.slice none 0 0, .slice none 0 0] 25
    simpa using this
  have z : w.heap.size + 2 ≤ V.heap.size := by rw [hV]; simp
  have hml := hmm.2.1
  obtain ⟨C, hC⟩ : ∃ C, C = teC bs ws i ms := ⟨_, rfl⟩
  obtain ⟨LB, hLB⟩ : ∃ L, L = teB bs ws i ms := ⟨_, rfl⟩
  obtain ⟨LW, hLW⟩ : ∃ L, L = teW bs ws i ms := ⟨_, rfl⟩
  rw [← hC, ← hLB, ← hLW]
  have HC : Hid _ := hC
  have HLB : Hid _ := hLB
  have HLW : Hid _ := hLW
  clear hC hLB hLW
  have c0 := arr2 A0
  rw [hV] at c0
  go_enter Try.func29, Try.ntmps29
  go_wp2_with fail
  rw [← hV]
  clear hV c0
  refine (implFlashOk aB nB cB aW nW cW bs ws _ (hB.below B) (hW.below B) hn hm).mono ?_
  rintro e w1 ⟨rfl, b1⟩
  replace A0 := A0.kept b1
  replace A1 := A1.kept b1
  replace B := B.trans (b1.mono B.size)
  have z1 : w.heap.size + 2 ≤ w1.heap.size := Nat.le_trans z b1.size
  clear b1 z
  have hf : flOk bs ws = false ∨ flOk bs ws = true := by cases flOk bs ws <;> simp
  obtain ⟨f, hf'⟩ : ∃ f, f = flOk bs ws := ⟨_, rfl⟩
  rw [← hf'] at hf ⊢
  have HFl : Hid _ := hf'
  clear hf'
  rcases hf with rfl | rfl
  · have tN : tOk bs ws ms = false := by unfold tOk; rw [← HFl.out]; rfl
    have : C = 4 := by rw [HC.out]; unfold teC; rw [tN]; rfl
    subst this
    have : LB = [] := by rw [HLB.out]; unfold teB; rw [tN]; rfl
    subst this
    have : LW = [] := by rw [HLW.out]; unfold teW; rw [tN]; rfl
    subst this
    have dR := arr2 A1
    have fR := A1.frozen
    have lR := A1.lt
    have K : Arr ((w1.setCell ⟨w.heap.size + 1, 0, none⟩ (.slice none 0 0)).setCell ⟨w.heap.size + 1, 1, none⟩ (.slice none 0 0)) (w.heap.size + 1) 25 [.slice none 0 0, .slice none 0 0] := (A1.set 0 _).set 1 _
    have BF : Below w.heap.size w ((w1.setCell ⟨w.heap.size + 1, 0, none⟩ (.slice none 0 0)).setCell ⟨w.heap.size + 1, 1, none⟩ (.slice none 0 0)) := (B.setCell (by simp) _).setCell (by simp) _
    have OF : OwnFl w.heap.size ((w1.setCell ⟨w.heap.size + 1, 0, none⟩ (.slice none 0 0)).setCell ⟨w.heap.size + 1, 1, none⟩ (.slice none 0 0)) none 0 0 none 0 0 [] [] := OwnFl.nil _ _
    have HK : Hid _ := K
    have HBF : Hid _ := BF
    have HOF : Hid _ := OF
    clear K BF OF
    go_wp2
    exact bodyPost_ret (results_row_tmp (v := .int .i64 4) (t := 25) (cs := [.slice none 0 0, .slice none 0 0]) rfl rfl rfl HK.out Try.underlying25 rfl (by kernel_rfl)) rfl ⟨_, rfl, IsFl.of HOF.out, HBF.out⟩
  by_cases h256 : 256 < (nm : Int)
  · have tN : tOk bs ws ms = false := by unfold tOk; rw [← HFl.out]; rw [decide_eq_false (by omega)]; rfl
    have : C = 4 := by rw [HC.out]; unfold teC; rw [tN]; rfl
    subst this
    have : LB = [] := by rw [HLB.out]; unfold teB; rw [tN]; rfl
    subst this
    have : LW = [] := by rw [HLW.out]; unfold teW; rw [tN]; rfl
    subst this
    have dR := arr2 A1
    have fR := A1.frozen
    have lR := A1.lt
    have K : Arr ((w1.setCell ⟨w.heap.size + 1, 0, none⟩ (.slice none 0 0)).setCell ⟨w.heap.size + 1, 1, none⟩ (.slice none 0 0)) (w.heap.size + 1) 25 [.slice none 0 0, .slice none 0 0] := (A1.set 0 _).set 1 _
    have BF : Below w.heap.size w ((w1.setCell ⟨w.heap.size + 1, 0, none⟩ (.slice none 0 0)).setCell ⟨w.heap.size + 1, 1, none⟩ (.slice none 0 0)) := (B.setCell (by simp) _).setCell (by simp) _
    have OF : OwnFl w.heap.size ((w1.setCell ⟨w.heap.size + 1, 0, none⟩ (.slice none 0 0)).setCell ⟨w.heap.size + 1, 1, none⟩ (.slice none 0 0)) none 0 0 none 0 0 [] [] := OwnFl.nil _ _
    have HK : Hid _ := K
    have HBF : Hid _ := BF
    have HOF : Hid _ := OF
    clear K BF OF
    go_wp2
    exact bodyPost_ret (results_row_tmp (v := .int .i64 4) (t := 25) (cs := [.slice none 0 0, .slice none 0 0]) rfl rfl rfl HK.out Try.underlying25 rfl (by kernel_rfl)) rfl ⟨_, rfl, IsFl.of HOF.out, HBF.out⟩
  have tY : tOk bs ws ms = true := by unfold tOk; rw [← HFl.out, decide_eq_true (by omega)]; rfl
  obtain ⟨l1, l2, l3, _⟩ := tOk_len tY
  have hbl := hB.2.1
  have hwl := hW.2.1
  have c0 := arr2 A0
  go_wp2_with fail
  clear c0
  refine (ownIt_i aB nB cB aW nW cW bs ws _ (hB.below B) (hW.below B) hn hm (by omega) (by omega)).mono ?_
  rintro e w2 ⟨g, c, g', c', rfl, O, b2⟩
  replace A0 := A0.kept b2
  replace A1 := A1.kept b2
  replace B := B.trans (b2.mono B.size)
  have z2 := b2.size
  clear b2
  have ng := (O.ob.lt g rfl)
  have ng' := (O.ow.lt g' rfl)
  obtain ⟨W, hW3⟩ : ∃ W, W = w2.alloc (.cells #[.slice (some ⟨g, 0, none⟩) nB c, .slice (some ⟨g', 0, none⟩) nW c'] 25) := ⟨_, rfl⟩
  have AQ : Arr W w2.heap.size 25 [.slice (some ⟨g, 0, none⟩) nB c, .slice (some ⟨g', 0, none⟩) nW c'] := by rw [hW3]; exact Arr.new _ _ _
  have bq : Below w2.heap.size w2 W := by rw [hW3]; exact (Below.refl _ _).alloc (Nat.le_refl _) _
  replace O := O.below bq
  replace A0 := A0.kept bq
  replace A1 := A1.kept bq
  replace B := B.trans (bq.mono B.size)
  have OW : OwnFl w.heap.size W (some ⟨g, 0, none⟩) nB c (some ⟨g', 0, none⟩) nW c' bs ws := O.base (by omega)
  have z3 := bq.size
  clear bq
  go_wp2_with fail
  rw [← hW3]
  clear hW3
  refine (implIsIn i 0 47 _).mono ?_
  rintro e w3 ⟨rfl, hw⟩
  rw [hw]
  clear hw
  by_cases hi : 0 ≤ i ∧ i < 48
  case neg =>
    have hCC : C = 1 := by rw [HC.out]; unfold teC; rw [tY, if_pos rfl, if_neg hi]
    have hne : teC bs ws i ms ≠ 0 := by rw [← HC.out, hCC]; decide
    subst hCC
    rw [decide_eq_false (by omega : ¬ (0 ≤ i ∧ i ≤ 47))]
    clear hi
    have : LB = bs := by rw [HLB.out]; unfold teB; rw [tY, if_pos rfl, if_neg (hne)]
    subst this
    have : LW = ws := by rw [HLW.out]; unfold teW; rw [tY, if_pos rfl, if_neg (hne)]
    subst this
    have dR := arr2 A1
    have fR := A1.frozen
    have dQ := arr2 AQ
    have lQ := AQ.lt
    have lR := A1.lt
    have K : Arr ((W.setCell ⟨w.heap.size + 1, 0, none⟩ (.slice (some ⟨g, 0, none⟩) nB c)).setCell ⟨w.heap.size + 1, 1, none⟩ (.slice (some ⟨g', 0, none⟩) nW c')) (w.heap.size + 1) 25 [.slice (some ⟨g, 0, none⟩) nB c, .slice (some ⟨g', 0, none⟩) nW c'] := (A1.set 0 _).set 1 _
    have BF : Below w.heap.size w ((W.setCell ⟨w.heap.size + 1, 0, none⟩ (.slice (some ⟨g, 0, none⟩) nB c)).setCell ⟨w.heap.size + 1, 1, none⟩ (.slice (some ⟨g', 0, none⟩) nW c')) := (B.setCell (by simp) _).setCell (by simp) _
    have OF : OwnFl w.heap.size ((W.setCell ⟨w.heap.size + 1, 0, none⟩ (.slice (some ⟨g, 0, none⟩) nB c)).setCell ⟨w.heap.size + 1, 1, none⟩ (.slice (some ⟨g', 0, none⟩) nW c')) (some ⟨g, 0, none⟩) nB c (some ⟨g', 0, none⟩) nW c' LB LW := (O.setO (w.heap.size + 1) 0 _ (by omega)).setO (w.heap.size + 1) 1 _ (by omega) |>.base (by omega)
    have HK : Hid _ := K
    have HBF : Hid _ := BF
    have HOF : Hid _ := OF
    clear K BF OF
    go_wp2
    exact bodyPost_ret (results_row_tmp (v := .int .i64 1) (t := 25) (cs := [.slice (some ⟨g, 0, none⟩) nB c, .slice (some ⟨g', 0, none⟩) nW c']) rfl rfl rfl HK.out Try.underlying25 rfl (by kernel_rfl)) rfl ⟨_, rfl, IsFl.of HOF.out, HBF.out⟩
  rw [decide_eq_true (by omega : 0 ≤ i ∧ i ≤ 47)]
  obtain ⟨S, rfl⟩ : ∃ S : Nat, i = (S : Int) := ⟨i.toNat, by omega⟩
  obtain ⟨x, ex⟩ : ∃ x, x = ws.getD S 0 := ⟨_, rfl⟩
  have hx := wr_get l3 (k := S) (by omega)
  rw [← ex] at hx
  have cQ := arr2 AQ
  have cw : W.cell? ⟨g', S, none⟩ = some (.int .i64 x) := by
    rw [O.ow.cellAt S (by omega)]
    simp [show S < ws.length by omega] at ex ⊢
    exact ex.symm
  have fz := O.ow.frozenAt S
  have hS48 : (S : Int) < 48 := by omega
  have hSn : (S : Int) < (nW : Int) := by omega
  have hCC : C = if x = 200 then 3 else 0 := by rw [HC.out]; unfold teC; rw [tY, if_pos rfl, if_pos hi]; simp [ex]
  have EX : Hid _ := ex
  clear ex
  by_cases h2 : x = 200
  case pos =>
    rw [if_pos h2] at hCC
    have hne : teC bs ws S ms ≠ 0 := by rw [← HC.out, hCC]; decide
    subst hCC
    have hx2 : (x == 200) = true := by simpa using h2
    clear h2 cQ
    have : LB = bs := by rw [HLB.out]; unfold teB; rw [tY, if_pos rfl, if_neg (hne)]
    subst this
    have : LW = ws := by rw [HLW.out]; unfold teW; rw [tY, if_pos rfl, if_neg (hne)]
    subst this
    have dR := arr2 A1
    have fR := A1.frozen
    have dQ := arr2 AQ
    have lQ := AQ.lt
    have lR := A1.lt
    have K : Arr ((W.setCell ⟨w.heap.size + 1, 0, none⟩ (.slice (some ⟨g, 0, none⟩) nB c)).setCell ⟨w.heap.size + 1, 1, none⟩ (.slice (some ⟨g', 0, none⟩) nW c')) (w.heap.size + 1) 25 [.slice (some ⟨g, 0, none⟩) nB c, .slice (some ⟨g', 0, none⟩) nW c'] := (A1.set 0 _).set 1 _
    have BF : Below w.heap.size w ((W.setCell ⟨w.heap.size + 1, 0, none⟩ (.slice (some ⟨g, 0, none⟩) nB c)).setCell ⟨w.heap.size + 1, 1, none⟩ (.slice (some ⟨g', 0, none⟩) nW c')) := (B.setCell (by simp) _).setCell (by simp) _
    have OF : OwnFl w.heap.size ((W.setCell ⟨w.heap.size + 1, 0, none⟩ (.slice (some ⟨g, 0, none⟩) nB c)).setCell ⟨w.heap.size + 1, 1, none⟩ (.slice (some ⟨g', 0, none⟩) nW c')) (some ⟨g, 0, none⟩) nB c (some ⟨g', 0, none⟩) nW c' LB LW := (O.setO (w.heap.size + 1) 0 _ (by omega)).setO (w.heap.size + 1) 1 _ (by omega) |>.base (by omega)
    have HK : Hid _ := K
    have HBF : Hid _ := BF
    have HOF : Hid _ := OF
    clear K BF OF
    go_wp2
    exact bodyPost_ret (results_row_tmp (v := .int .i64 3) (t := 25) (cs := [.slice (some ⟨g, 0, none⟩) nB c, .slice (some ⟨g', 0, none⟩) nW c']) rfl rfl rfl HK.out Try.underlying25 rfl (by kernel_rfl)) rfl ⟨_, rfl, IsFl.of HOF.out, HBF.out⟩
  rw [if_neg h2] at hCC
  have hz : teC bs ws S ms = 0 := by rw [← HC.out, hCC]
  have hx2 : (x == 200) = false := by simpa using h2
  have hLB : LB = tn (ef ms) bs (S * 64) 64 := by rw [HLB.out]; unfold teB; rw [tY, if_pos rfl, if_pos hz]; simp
  subst hLB
  have hLW : LW = ws.set S (x + 1) := by rw [HLW.out]; unfold teW; rw [tY, if_pos rfl, if_pos hz]; simp [EX.out]
  subst hLW
  subst hCC
  have hm3 := hmm.below B
  have hadd : IntKind.i64.wrap (x + 1) = x + 1 := by rw [IntKind.wrap_i64]; omega
  have hcc : nB ≤ c := by
    rcases O.ob.2 with ⟨h, _⟩ | ⟨g9, cap, cur, e9, _, _, h9, _⟩
    · cases h
    · injection e9 with e9 e8 e7
      omega
  have ngg : g ≠ g' := fun e => O.ap g rfl (by rw [e]; rfl)
  have st := O.ow.stored S (.int .i64 (x + 1))
  rw [show (I64 ws).set S (.int .i64 (x + 1)) = I64 (ws.set S (x + 1)) by simp [I64]] at st
  obtain ⟨X, hX⟩ : ∃ X, X = W.setCell ⟨g', S, none⟩ (.int .i64 (x + 1)) := ⟨_, rfl⟩
  rw [← hX] at st
  have AQX : Arr X w2.heap.size 25 [.slice (some ⟨g, 0, none⟩) nB c, .slice (some ⟨g', 0, none⟩) nW c'] := AQ.grown st.2 (by omega)
  have A1X := A1.grown st.2 (by omega)
  have OX : OwnFl w1.heap.size X (some ⟨g, 0, none⟩) nB c (some ⟨g', 0, none⟩) nW c' bs (ws.set S (x + 1)) := ⟨own_kept (u := .slice (some ⟨g', 0, none⟩) nW c') O.ob st.2 O.ap.symm, st.1, O.ap⟩
  have BX : Below w.heap.size w X := B.grown st.2 B.size (fun k hk => by cases hk; omega)
  have zX := st.2.size
  have cX := arr2 AQX
  rw [hX] at cX
  clear h2 hz st
  go_wp2_with fail
  rw [← hX]
  clear hX cw fz cQ cX
  refine (implSectorOf g nB c (some ⟨g', 0, none⟩) nW c' S _ (by omega) hcc hn).mono ?_
  rintro e w4 ⟨rfl, b4⟩
  replace AQX := AQX.kept b4
  replace A1X := A1X.kept b4
  replace OX := OX.below b4
  replace BX := BX.trans (b4.mono BX.size)
  have z4 := b4.size
  clear b4
  obtain ⟨M, hM⟩ : ∃ M, M = w4.alloc (.cells #[.int .u8 255] 5) := ⟨_, rfl⟩
  have h255 : Bs M (some ⟨w4.heap.size, 0, none⟩) 1 1 [255] := by rw [hM]; exact Bs.one w4 255 (by omega) (by omega)
  have bM : Below w4.heap.size w4 M := by rw [hM]; exact (Below.refl _ _).alloc (Nat.le_refl _) _
  replace AQX := AQX.kept bM
  replace A1X := A1X.kept bM
  replace OX := OX.below bM
  replace BX := BX.trans (bM.mono BX.size)
  have zM := bM.size
  clear bM
  go_wp2_with fail
  rw [← hM]
  clear hM
  refine (repeat255 w4.heap.size 0 1 64 _ h255 (by omega) (by omega)).mono ?_
  rintro e w5 ⟨gr, rfl, rp, b5⟩
  replace AQX := AQX.kept b5
  replace A1X := A1X.kept b5
  replace OX := OX.below b5
  replace BX := BX.trans (b5.mono BX.size)
  have z5 := b5.size
  have hrp := rp.bs (by intro y hy; rw [List.mem_replicate] at hy; omega)
  have ngr : gr ≠ g := by have := rp.lo; omega
  clear b5 rp h255
  go_wp2_with fail
  refine (turnSet w1.heap.size g nB c bs (S * 64) (some ⟨g, S * 64, none⟩) 64 (c - S * 64) (some ⟨gr, 0, none⟩) 64 64 (List.replicate 64 255) am nm cm ms _ OX.ob (.inr ⟨rfl, Nat.le_refl _⟩) hrp (hmm.below BX) (.inr (by intro p hp; injection hp with hp; subst hp; exact ngr)) (hmm.off (by omega)) (by omega) hn hmn).mono ?_
  rintro e w6 ⟨⟨v, rfl⟩, o6, g6⟩
  rw [tn_congr (g := ef ms) bs (S * 64) 64 (fun q b hq => erb_of _ ms 64 rfl q hq b)] at o6
  have O6 : OwnFl w1.heap.size w6 (some ⟨g, 0, none⟩) nB c (some ⟨g', 0, none⟩) nW c' (tn (ef ms) bs (S * 64) 64) (ws.set S (x + 1)) := ⟨o6, own_kept (u := .slice (some ⟨g, 0, none⟩) nB c) OX.ow g6 O.ap, O.ap⟩
  have B6 : Below w.heap.size w w6 := BX.grown g6 BX.size (fun k hk => by cases hk; omega)
  have A16 := A1X.grown g6 (by omega)
  have AQ6 := AQX.grown g6 (by omega)
  clear o6 g6 O OW A1 AQ A0 B OX A1X AQX BX hrp
  have dR := arr2 A16
  have fR := A16.frozen
  have dQ := arr2 AQ6
  have lQ := AQ6.lt
  have lR := A16.lt
  have K : Arr ((w6.setCell ⟨w.heap.size + 1, 0, none⟩ (.slice (some ⟨g, 0, none⟩) nB c)).setCell ⟨w.heap.size + 1, 1, none⟩ (.slice (some ⟨g', 0, none⟩) nW c')) (w.heap.size + 1) 25 [.slice (some ⟨g, 0, none⟩) nB c, .slice (some ⟨g', 0, none⟩) nW c'] := (A16.set 0 _).set 1 _
  have BF : Below w.heap.size w ((w6.setCell ⟨w.heap.size + 1, 0, none⟩ (.slice (some ⟨g, 0, none⟩) nB c)).setCell ⟨w.heap.size + 1, 1, none⟩ (.slice (some ⟨g', 0, none⟩) nW c')) := (B6.setCell (by simp) _).setCell (by simp) _
  have OF : OwnFl w.heap.size ((w6.setCell ⟨w.heap.size + 1, 0, none⟩ (.slice (some ⟨g, 0, none⟩) nB c)).setCell ⟨w.heap.size + 1, 1, none⟩ (.slice (some ⟨g', 0, none⟩) nW c')) (some ⟨g, 0, none⟩) nB c (some ⟨g', 0, none⟩) nW c' (tn (ef ms) bs (S * 64) 64) (ws.set S (x + 1)) := (O6.setO (w.heap.size + 1) 0 _ (by omega)).setO (w.heap.size + 1) 1 _ (by omega) |>.base (by omega)
  have HK : Hid _ := K
  have HBF : Hid _ := BF
  have HOF : Hid _ := OF
  clear K BF OF
  go_wp2
  exact bodyPost_ret (results_row_tmp (v := .int .i64 0) (t := 25) (cs := [.slice (some ⟨g, 0, none⟩) nB c, .slice (some ⟨g', 0, none⟩) nW c']) rfl rfl rfl HK.out Try.underlying25 rfl (by kernel_rfl)) rfl ⟨_, rfl, IsFl.of HOF.out, HBF.out⟩

theorem erase_i (aB : Option Addr) (nB cB : Nat) (aW : Option Addr) (nW cW : Nat) (bs ws : List Int) (i : Int)  (w : World) (hB : Bs w aB nB cB bs) (hW : Is w aW nW cW ws) (hn : nB ≤ 2097152) (hm : nW ≤ 2097152) (hl : -9223372036854775808 ≤ i) (hu : i ≤ 9223372036854775807)  :
    Calls Try.prog 21 #[flV aB nB cB aW nW cW, .int .i64 i] w fun e w' => ∃ v, e = .returned (.tuple #[v, .int .i64 (teC bs ws i [255])]) ∧ IsFl w w' v (teB bs ws i [255]) (teW bs ws i [255]) ∧ Below w.heap.size w w' := by
  obtain ⟨V, hV⟩ : ∃ V, V = (w.alloc (.cells #[.slice aB nB cB, .slice aW nW cW] 25)).alloc (.cells #[.slice none 0 0, .slice none 0 0] 25) := ⟨_, rfl⟩
  have B : Below w.heap.size w V := by rw [hV]; exact ((Below.refl _ _).alloc (Nat.le_refl _) _).alloc (by simp) _
  have A0 : Arr V w.heap.size 25 [.slice aB nB cB, .slice aW nW cW] := by rw [hV]; exact (Arr.new w _ _).alloc _
  have A1 : Arr V (w.heap.size + 1) 25 [.slice none 0 0, .slice none 0 0] := by
    rw [hV]
    have := Arr.new (w.alloc (.cells #[.slice aB nB cB, .slice aW nW cW] 25)) [.slice none 0 0, .slice none 0 0] 25
    simpa using this
  have z : w.heap.size + 2 ≤ V.heap.size := by rw [hV]; simp
  have h255 : Bs (V.alloc (.cells #[.int .u8 255] 5)) (some ⟨V.heap.size, 0, none⟩) 1 1 [255] := Bs.one V 255 (by omega) (by omega)
  have bm : Below V.heap.size V (V.alloc (.cells #[.int .u8 255] 5)) := (Below.refl _ _).alloc (Nat.le_refl _) _
  have zm : V.heap.size < (V.alloc (.cells #[.int .u8 255] 5)).heap.size := by simp
  obtain ⟨M, hM⟩ : ∃ M, M = V.alloc (.cells #[.int .u8 255] 5) := ⟨_, rfl⟩
  rw [← hM] at h255 bm zm
  have A1M := A1.kept bm
  have BM := B.trans (bm.mono B.size)
  have e1 : V.heap.size = w.heap.size + 1 + 1 := by rw [hV]; simp
  rw [e1] at h255
  obtain ⟨C, hC⟩ : ∃ C, C = teC bs ws i [255] := ⟨_, rfl⟩
  obtain ⟨LB, hLB⟩ : ∃ L, L = teB bs ws i [255] := ⟨_, rfl⟩
  obtain ⟨LW, hLW⟩ : ∃ L, L = teW bs ws i [255] := ⟨_, rfl⟩
  have HT : Calls Try.prog 29 #[flV aB nB cB aW nW cW, .int .i64 i, .slice (some ⟨w.heap.size + 1 + 1, 0, none⟩) 1 1] M fun e w' => ∃ v, e = .returned (.tuple #[v, .int .i64 C]) ∧ IsFl M w' v LB LW ∧ Below M.heap.size M w' := by
    rw [hC, hLB, hLW]
    exact tornErase_i aB nB cB aW nW cW bs ws i  (some ⟨w.heap.size + 1 + 1, 0, none⟩) 1 1 [255] M (hB.below BM) (hW.below BM) hn hm hl hu  h255 (by omega)
  rw [← hC, ← hLB, ← hLW]
  clear bm hC hLB hLW
  have c0 := arr2 A0
  rw [hV] at c0 hM
  have z9 : w.heap.size + 2 ≤ M.heap.size := by omega
  clear e1 zm z h255 A0 A1 B hV
  go_enter Try.func21, Try.ntmps21
  go_wp2_with fail
  rw [← hM]
  clear hM c0
  refine HT.mono ?_
  rintro e w5 ⟨v, rfl, hv, b5⟩
  obtain ⟨a, c, a', c', rfl, O⟩ := hv
  have B5 := BM.trans (b5.mono BM.size)
  have A15 := A1M.kept b5
  have o1 : In (.slice a LB.length c) M.heap.size w5.heap.size := In.of O.ob
  have o2 : In (.slice a' LW.length c') M.heap.size w5.heap.size := In.of O.ow
  clear HT b5 A1M BM
  have dR := arr2 A15
  have fR := A15.frozen
  have lR := A15.lt
  have K : Arr ((w5.setCell ⟨w.heap.size + 1, 0, none⟩ (.slice a LB.length c)).setCell ⟨w.heap.size + 1, 1, none⟩ (.slice a' LW.length c')) (w.heap.size + 1) 25 [.slice a LB.length c, .slice a' LW.length c'] := (A15.set 0 _).set 1 _
  have BF : Below w.heap.size w ((w5.setCell ⟨w.heap.size + 1, 0, none⟩ (.slice a LB.length c)).setCell ⟨w.heap.size + 1, 1, none⟩ (.slice a' LW.length c')) := (B5.setCell (by simp) _).setCell (by simp) _
  have OF : OwnFl w.heap.size ((w5.setCell ⟨w.heap.size + 1, 0, none⟩ (.slice a LB.length c)).setCell ⟨w.heap.size + 1, 1, none⟩ (.slice a' LW.length c')) a LB.length c a' LW.length c' LB LW := ⟨own_otherS (own_otherS (own_base O.ob (by omega)) _ _ (o1.ne (by simp; omega))) _ _ (o1.ne (by simp; omega)), own_otherS (own_otherS (own_base O.ow (by omega)) _ _ (o2.ne (by simp; omega))) _ _ (o2.ne (by simp; omega)), O.ap⟩
  have HK : Hid _ := K
  have HBF : Hid _ := BF
  have HOF : Hid _ := OF
  clear K BF OF
  go_wp2
  exact bodyPost_ret (results_row_tmp (v := .int .i64 C) (t := 25) (cs := [.slice a LB.length c, .slice a' LW.length c']) rfl rfl rfl HK.out Try.underlying25 rfl (by kernel_rfl)) rfl ⟨_, rfl, IsFl.of HOF.out, HBF.out⟩
end Go.Proofs.Ytcnlpdpbkkjkoaa

/-
  What is proved here: what the program's halfOf answers.
-/
import Derived.Test.YtgfjbaigmkdbcaaJS16
import Derived.Test.YtgfjbaigmkdbcaaJS23
import Derived.Test.YtgfjbaigmkdbcaaJS12
namespace Go.Proofs.Ytgfjbaigmkdbcaa
open Go.RowKit
set_option maxRecDepth 100000
set_option maxHeartbeats 4000000
set_option linter.unusedVariables false

theorem own_otherL {w : World} {b e s n : Nat} {v : Value} {xs : List Value} (h : w.ownsRow b e s v n xs) (p : Addr) (u : Value) (hp : p.block < b) : (w.setCell p u).ownsRow b e s v n xs := by
  refine ⟨h.1, ?_⟩
  rcases h.2 with hn | ⟨g, cap, cur, rfl, hb, hgg, rest⟩
  · exact .inl hn
  · exact .inr ⟨g, cap, cur, rfl, hb, by rw [heap_setCell_other w p g u (by omega)]; exact hgg, rest⟩
theorem hdOk_go (ys : List Int) : hdOk ys = (gOkB (pl ys 0) && decide (goK (pl ys 0) = 1)) := by
  unfold hdOk
  by_cases g : gOkB (pl ys 0) = true
  · rw [show goK (pl ys 0) = gK (pl ys 0) from if_pos g]
  · have g' : gOkB (pl ys 0) = false := by simpa using g
    rw [g']
    rfl
/-- The cells of a log that halfOf answers. -/
def hlL (b o cb : Nat) (aw : Option Addr) (nw cw : Nat) (xs : List Int) (k : Nat) : List Value :=
  if hdOk (hf xs k) = true then [.slice (some ⟨b, o, none⟩) 3072 cb, .slice aw nw cw, .int .i64 (k : Int), .int .i64 (goN (pl (hf xs k) 0)), .int .i64 ((scN (hf xs k) : Nat) : Int), .int .i64 (hfS (hf xs k)).1.b, .int .i64 (hfS (hf xs k)).1.n, .int .i64 (hfS (hf xs k)).1.f, .bool (hfS (hf xs k)).1.t, .int .i64 (hfS (hf xs k)).1.i, .int .i64 (hfS (hf xs k)).1.o] else [.slice none 0 0, .slice none 0 0, .int .i64 0, .int .i64 0, .int .i64 0, .int .i64 0, .int .i64 0, .int .i64 0, .bool false, .int .i64 0, .int .i64 0]
theorem implHalfOf (b o cb : Nat) (aw : Option Addr) (nw cw : Nat) (xs : List Int) (k : Nat) (w : World) (h : Bs w (some ⟨b, o, none⟩) 3072 cb xs) (hk : k < 2) :
    Calls Try.prog 150 #[flV (some ⟨b, o, none⟩) 3072 cb aw nw cw, .int .i64 (k : Int)] w fun e w' => e = .returned (.tuple #[.agg (hlL b o cb aw nw cw xs k).toArray, .bool (hfS (hf xs k)).2]) ∧ Below w.heap.size w w' := by
  have hcb := h.2.2.1
  obtain ⟨V, hV⟩ : ∃ V, V = (w.alloc (.cells #[.slice (some ⟨b, o, none⟩) 3072 cb, .slice aw nw cw] 68)).alloc (.cells #[.slice none 0 0, .slice none 0 0, .int .i64 0, .int .i64 0, .int .i64 0, .int .i64 0, .int .i64 0, .int .i64 0, .bool false, .int .i64 0, .int .i64 0] 154) := ⟨_, rfl⟩
  have B : Below w.heap.size w V := by rw [hV]; exact ((Below.refl _ _).alloc (Nat.le_refl _) _).alloc (by simp) _
  have A : Arr V w.heap.size 68 [.slice (some ⟨b, o, none⟩) 3072 cb, .slice aw nw cw] := by rw [hV]; exact (Arr.new w [.slice (some ⟨b, o, none⟩) 3072 cb, .slice aw nw cw] 68).alloc _
  have Q : Arr V (w.heap.size + 1) 154 [.slice none 0 0, .slice none 0 0, .int .i64 0, .int .i64 0, .int .i64 0, .int .i64 0, .int .i64 0, .int .i64 0, .bool false, .int .i64 0, .int .i64 0] := by
    rw [hV]
    have := Arr.new (w.alloc (.cells #[.slice (some ⟨b, o, none⟩) 3072 cb, .slice aw nw cw] 68)) [.slice none 0 0, .slice none 0 0, .int .i64 0, .int .i64 0, .int .i64 0, .int .i64 0, .int .i64 0, .int .i64 0, .bool false, .int .i64 0, .int .i64 0] 154
    simpa using this
  have HH : Hid (∀ Z, Below w.heap.size w Z → Bs Z (some ⟨b, o, none⟩) 3072 cb xs) := fun Z hZ => h.below hZ
  have HP : Hid (∀ Z, Below w.heap.size w Z → Calls Try.prog 161 #[.agg #[.slice (some ⟨b, o, none⟩) 3072 cb, .slice aw nw cw, .int .i64 (k : Int), .int .i64 0, .int .i64 0, .int .i64 0, .int .i64 0, .int .i64 0, .bool false, .int .i64 0, .int .i64 0]] Z fun e w' => e = .returned (.slice (some ⟨b, o + (2560 + 256 * k), none⟩) 256 (cb - (2560 + 256 * k))) ∧ Below Z.heap.size Z w') := fun Z hZ => implPlaces b o cb aw nw cw xs k Z (h.below hZ) hk
  have HT : Hid (∀ Z, Below w.heap.size w Z → Calls Try.prog 142 #[.slice (some ⟨b, o + (2560 + 256 * k), none⟩) 8 (cb - (2560 + 256 * k))] Z fun e w' => e = .returned (goV (pl (hf xs k) 0)) ∧ Below Z.heap.size Z w') := fun Z hZ => implRecGet _ _ _ _ Z (bs_place (h.below hZ) hk) (by omega)
  have HC : Hid (∀ Z, Below w.heap.size w Z → Calls Try.prog 43 #[.slice (some ⟨b, o + (2560 + 256 * k), none⟩) 256 (cb - (2560 + 256 * k))] Z fun e w' => ∃ v, e = .returned (.tuple #[v, .int .i64 ((scN (hf xs k) : Nat) : Int)]) ∧ w'.ownsRow Z.heap.size 144 4 v (scL (hf xs k)).length (FL (scL (hf xs k))) ∧ Below Z.heap.size Z w') := fun Z hZ => implScan _ _ _ _ Z (bs_hf (h.below hZ) hk) (by omega)
  obtain ⟨C, hC⟩ : ∃ C, C = cb - (2560 + 256 * k) := ⟨_, rfl⟩
  have hC8 : (8 : Int) ≤ (C : Int) := by omega
  obtain ⟨P, hP⟩ : ∃ P, P = o + (2560 + 256 * k) := ⟨_, rfl⟩
  rw [← hC] at HP HT HC
  rw [← hP] at HP HT HC
  clear hC hP
  have hx := h.2.1
  have HF : Hid (foT (scL (hf xs k)) = foL (scR (hf xs k) 32)) := foT_sc (hf_len hx hk)
  have hle : (scL (hf xs k)).length ≤ 32 := scL_len _
  obtain ⟨S, hS⟩ : ∃ S, S = hfS (hf xs k) := ⟨_, rfl⟩
  obtain ⟨D, hD⟩ : ∃ D, D = hlL b o cb aw nw cw xs k := ⟨_, rfl⟩
  have HS : Hid (S = if hdOk (hf xs k) = true then foL (scR (hf xs k) 32) else (bz, false)) := hS
  have HD : Hid (D = if hdOk (hf xs k) = true then [.slice (some ⟨b, o, none⟩) 3072 cb, .slice aw nw cw, .int .i64 (k : Int), .int .i64 (goN (pl (hf xs k) 0)), .int .i64 ((scN (hf xs k) : Nat) : Int), .int .i64 S.1.b, .int .i64 S.1.n, .int .i64 S.1.f, .bool S.1.t, .int .i64 S.1.i, .int .i64 S.1.o] else [.slice none 0 0, .slice none 0 0, .int .i64 0, .int .i64 0, .int .i64 0, .int .i64 0, .int .i64 0, .int .i64 0, .bool false, .int .i64 0, .int .i64 0]) := by unfold Hid; rw [hD, hS]; rfl
  rw [← hS, ← hD]
  rw [hdOk_go] at HS HD
  obtain ⟨R0, hR0⟩ : ∃ R0, R0 = foL (scR (hf xs k) 32) := ⟨_, rfl⟩
  rw [← hR0] at HS HF
  obtain ⟨U, hU⟩ : ∃ U : Nat, U = scN (hf xs k) := ⟨_, rfl⟩
  rw [← hU] at HC HD
  obtain ⟨l, hl⟩ : ∃ l, l = scL (hf xs k) := ⟨_, rfl⟩
  rw [← hl] at HC HF hle
  unfold goV at HT
  obtain ⟨gk, hgk⟩ : ∃ q, q = goK (pl (hf xs k) 0) := ⟨_, rfl⟩
  obtain ⟨gb, hgb⟩ : ∃ q, q = goB (pl (hf xs k) 0) := ⟨_, rfl⟩
  obtain ⟨gn, hgn⟩ : ∃ q, q = goN (pl (hf xs k) 0) := ⟨_, rfl⟩
  obtain ⟨gf, hgf⟩ : ∃ q, q = goF (pl (hf xs k) 0) := ⟨_, rfl⟩
  obtain ⟨ok, hok⟩ : ∃ q, q = gOkB (pl (hf xs k) 0) := ⟨_, rfl⟩
  rw [← hgk, ← hok] at HS
  rw [← hgk, ← hgn, ← hok] at HD
  rw [← hgk, ← hgb, ← hgn, ← hgf, ← hok] at HT
  obtain ⟨G, hG⟩ : ∃ G, G = w.heap.size + 1 := ⟨_, rfl⟩
  obtain ⟨F, hF⟩ : ∃ F, F = w.heap.size := ⟨_, rfl⟩
  have hGw : w.heap.size ≤ G := by omega
  rw [← hG] at Q
  rw [← hF] at A
  clear hgk hgb hgn hgf hok hU hl hR0 hS hD h hx HH hcb
  have c0 := A.cell 0
  have c1 := A.cell 1
  simp at c0 c1
  go_enter Try.func150, Try.ntmps150
  go_upto_region 1 with fail
  rw [← hV]
  rw [← hG]
  rw [← hF]
  clear hF hG hV
  obtain ⟨X, hX⟩ : ∃ X, X = V.alloc (.cells #[.slice (some ⟨b, o, none⟩) 3072 cb, .slice aw nw cw, .int .i64 (k : Int), .int .i64 0, .int .i64 0, .int .i64 0, .int .i64 0, .int .i64 0, .bool false, .int .i64 0, .int .i64 0] 154) := ⟨_, rfl⟩
  have L : Arr X V.heap.size 154 [.slice (some ⟨b, o, none⟩) 3072 cb, .slice aw nw cw, .int .i64 (k : Int), .int .i64 0, .int .i64 0, .int .i64 0, .int .i64 0, .int .i64 0, .bool false, .int .i64 0, .int .i64 0] := by rw [hX]; exact Arr.new _ _ _
  have lG := Q.lt
  replace Q : Arr X G 154 [.slice none 0 0, .slice none 0 0, .int .i64 0, .int .i64 0, .int .i64 0, .int .i64 0, .int .i64 0, .int .i64 0, .bool false, .int .i64 0, .int .i64 0] := by rw [hX]; exact Q.alloc _
  replace B : Below w.heap.size w X := by rw [hX]; exact B.alloc B.size _
  obtain ⟨H, hH⟩ : ∃ H, H = V.heap.size := ⟨_, rfl⟩
  have hGH : G < H := by omega
  rw [← hH] at L
  go_upto_region 2 with fail
  rw [← hX]
  rw [← hH]
  clear hX hH A c0 c1 lG
  have l0 := L.cell 0
  have l1 := L.cell 1
  have l2 := L.cell 2
  have l3 := L.cell 3
  have l4 := L.cell 4
  have l5 := L.cell 5
  have l6 := L.cell 6
  have l7 := L.cell 7
  have l8 := L.cell 8
  have l9 := L.cell 9
  have l10 := L.cell 10
  simp at l0 l1 l2 l3 l4 l5 l6 l7 l8 l9 l10
  go_wp2_with fail
  refine Calls.mono (HP.out _ B) ?_
  rintro e w1 ⟨rfl, hb⟩
  replace L := L.kept hb
  replace Q := Q.kept hb
  replace B := B.trans (hb.mono B.size)
  clear hb HP l0 l1 l2 l3 l4 l5 l6 l7 l8 l9 l10
  go_wp2_with fail
  refine Calls.mono (HT.out _ B) ?_
  rintro e w2 ⟨rfl, hb⟩
  replace L := L.kept hb
  replace Q := Q.kept hb
  replace B := B.trans (hb.mono B.size)
  clear hb HT
  obtain ⟨Y, hY⟩ : ∃ Y, Y = w2.alloc (.cells #[.int .i64 gk, .int .i64 gb, .int .i64 gn, .int .i64 gf] 144) := ⟨_, rfl⟩
  have hb : Below w2.heap.size w2 Y := by rw [hY]; exact (Below.refl _ _).alloc (Nat.le_refl _) _
  have R : Arr Y w2.heap.size 144 [.int .i64 gk, .int .i64 gb, .int .i64 gn, .int .i64 gf] := by rw [hY]; exact Arr.new _ _ _
  replace L := L.kept hb
  replace Q := Q.kept hb
  replace B := B.trans (hb.mono B.size)
  clear hb
  obtain ⟨J, hJ⟩ : ∃ J, J = w2.heap.size := ⟨_, rfl⟩
  rw [← hJ] at R
  go_upto_region 4 with fail
  rw [← hY]
  rw [← hJ]
  clear hY hJ
  have r0 := R.cell 0
  have r2 := R.cell 2
  simp at r0 r2
  cases ok
  · have HE : Hid _ := HS.out.trans (if_neg (by simp))
    have HL : Hid _ := HD.out.trans (if_neg (by simp))
    clear HS HD HC HF R L
    have q0 := Q.cell 0
    have q1 := Q.cell 1
    have q2 := Q.cell 2
    have q3 := Q.cell 3
    have q4 := Q.cell 4
    have q5 := Q.cell 5
    have q6 := Q.cell 6
    have q7 := Q.cell 7
    have q8 := Q.cell 8
    have q9 := Q.cell 9
    have q10 := Q.cell 10
    simp at q0 q1 q2 q3 q4 q5 q6 q7 q8 q9 q10
    have fQ := Q.frozen
    have lQ := Q.lt
    have HK : Hid _ := set11 Q (.slice none 0 0) (.slice none 0 0) (.int .i64 0) (.int .i64 0) (.int .i64 0) (.int .i64 0) (.int .i64 0) (.int .i64 0) (.bool false) (.int .i64 0) (.int .i64 0)
    have HB : Hid _ := bel_set11 B hGw (.slice none 0 0) (.slice none 0 0) (.int .i64 0) (.int .i64 0) (.int .i64 0) (.int .i64 0) (.int .i64 0) (.int .i64 0) (.bool false) (.int .i64 0) (.int .i64 0)
    clear Q B
    go_wp2
    exact bodyPost_ret (results_row_tmp (v := .bool false) (t := 154) (cs := [.slice none 0 0, .slice none 0 0, .int .i64 0, .int .i64 0, .int .i64 0, .int .i64 0, .int .i64 0, .int .i64 0, .bool false, .int .i64 0, .int .i64 0]) rfl rfl rfl HK.out Try.underlying154 rfl (by kernel_rfl)) rfl ⟨by rw [HE.out, HL.out], HB.out⟩
  by_cases h1 : gk = 1
  case neg =>
    have h1' : (gk != 1) = true := by simpa using h1
    have HE : Hid _ := HS.out.trans (if_neg (by simp [h1]))
    have HL : Hid _ := HD.out.trans (if_neg (by simp [h1]))
    clear HS HD HC HF R L h1
    have q0 := Q.cell 0
    have q1 := Q.cell 1
    have q2 := Q.cell 2
    have q3 := Q.cell 3
    have q4 := Q.cell 4
    have q5 := Q.cell 5
    have q6 := Q.cell 6
    have q7 := Q.cell 7
    have q8 := Q.cell 8
    have q9 := Q.cell 9
    have q10 := Q.cell 10
    simp at q0 q1 q2 q3 q4 q5 q6 q7 q8 q9 q10
    have fQ := Q.frozen
    have lQ := Q.lt
    have HK : Hid _ := set11 Q (.slice none 0 0) (.slice none 0 0) (.int .i64 0) (.int .i64 0) (.int .i64 0) (.int .i64 0) (.int .i64 0) (.int .i64 0) (.bool false) (.int .i64 0) (.int .i64 0)
    have HB : Hid _ := bel_set11 B hGw (.slice none 0 0) (.slice none 0 0) (.int .i64 0) (.int .i64 0) (.int .i64 0) (.int .i64 0) (.int .i64 0) (.int .i64 0) (.bool false) (.int .i64 0) (.int .i64 0)
    clear Q B
    go_wp2
    exact bodyPost_ret (results_row_tmp (v := .bool false) (t := 154) (cs := [.slice none 0 0, .slice none 0 0, .int .i64 0, .int .i64 0, .int .i64 0, .int .i64 0, .int .i64 0, .int .i64 0, .bool false, .int .i64 0, .int .i64 0]) rfl rfl rfl HK.out Try.underlying154 rfl (by kernel_rfl)) rfl ⟨by rw [HE.out, HL.out], HB.out⟩
  subst h1
  have HE : Hid _ := HS.out.trans (if_pos rfl)
  have HL : Hid _ := HD.out.trans (if_pos rfl)
  clear HS HD
  go_wp2_with fail
  refine Calls.mono (HC.out _ B) ?_
  rintro e w3 ⟨v3, rfl, O, hb⟩
  have lH := L.lt
  replace L := L.kept hb
  replace Q := Q.kept hb
  replace R := R.kept hb
  replace B := B.trans (hb.mono B.size)
  clear hb HC r0 r2
  obtain ⟨va, vc, rfl, _, _⟩ := Rs.own O
  have HO : Hid (w3.ownsRow Y.heap.size 144 4 (.slice va l.length vc) l.length (FL l)) := O
  clear O
  have r2 := R.cell 2
  have l0 := L.cell 0
  have l1 := L.cell 1
  have l2 := L.cell 2
  have l3 := L.cell 3
  have l4 := L.cell 4
  have l5 := L.cell 5
  have l6 := L.cell 6
  have l7 := L.cell 7
  have l8 := L.cell 8
  have l9 := L.cell 9
  have l10 := L.cell 10
  simp at l0 l1 l2 l3 l4 l5 l6 l7 l8 l9 l10
  simp at r2
  have fL := L.frozen
  have lL := L.lt
  obtain ⟨Z, hZ⟩ : ∃ Z, Z = (w3.setCell ⟨H, 3, none⟩ (.int .i64 gn)).setCell ⟨H, 4, none⟩ (.int .i64 (U : Int)) := ⟨_, rfl⟩
  have L2 : Arr Z H 154 [.slice (some ⟨b, o, none⟩) 3072 cb, .slice aw nw cw, .int .i64 (k : Int), .int .i64 gn, .int .i64 (U : Int), .int .i64 0, .int .i64 0, .int .i64 0, .bool false, .int .i64 0, .int .i64 0] := by rw [hZ]; exact (L.set 3 _).set 4 _
  have Q2 : Arr Z G 154 [.slice none 0 0, .slice none 0 0, .int .i64 0, .int .i64 0, .int .i64 0, .int .i64 0, .int .i64 0, .int .i64 0, .bool false, .int .i64 0, .int .i64 0] := by rw [hZ]; exact (Q.other ⟨H, 3, none⟩ _ (by show G ≠ H; omega)).other ⟨H, 4, none⟩ _ (by show G ≠ H; omega)
  have B2 : Below w.heap.size w Z := by rw [hZ]; exact (B.setCell (p := ⟨H, 3, none⟩) (by show w.heap.size ≤ H; omega) _).setCell (p := ⟨H, 4, none⟩) (by show w.heap.size ≤ H; omega) _
  have HO2 : Hid (Z.ownsRow Y.heap.size 144 4 (.slice va l.length vc) l.length (FL l)) := by
    unfold Hid
    rw [hZ]
    exact own_otherL (own_otherL HO.out ⟨H, 3, none⟩ _ (by show H < Y.heap.size; omega)) ⟨H, 4, none⟩ _ (by show H < Y.heap.size; omega)
  go_upto_region 8 with fail
  rw [← hZ]
  clear hZ HO L Q B l0 l1 l2 l3 l4 l5 l6 l7 l8 l9 l10 fL lL r2 R
  go_wp2_with fail
  refine (implFold va l.length vc l _ (rs_of_own HO2.out) (by omega)).mono ?_
  rintro e w4 ⟨rfl, hb⟩
  rw [HF.out]
  replace L2 := L2.kept hb
  replace Q2 := Q2.kept hb
  replace B2 := B2.trans (hb.mono B2.size)
  clear hb HF HO2
  rw [← HE.out]
  clear HE
  obtain ⟨⟨sb, sn, sf, st, si, so⟩, ok⟩ := S
  dsimp only at HL
  dsimp only [stV, btW]
  have l0 := L2.cell 0
  have l1 := L2.cell 1
  have l2 := L2.cell 2
  have l3 := L2.cell 3
  have l4 := L2.cell 4
  have l5 := L2.cell 5
  have l6 := L2.cell 6
  have l7 := L2.cell 7
  have l8 := L2.cell 8
  have l9 := L2.cell 9
  have l10 := L2.cell 10
  simp at l0 l1 l2 l3 l4 l5 l6 l7 l8 l9 l10
  have fL := L2.frozen
  have lL := L2.lt
  obtain ⟨T, hT⟩ : ∃ T, T = (((((w4.setCell ⟨H, 5, none⟩ (.int .i64 sb)).setCell ⟨H, 6, none⟩ (.int .i64 sn)).setCell ⟨H, 7, none⟩ (.int .i64 sf)).setCell ⟨H, 8, none⟩ (.bool st)).setCell ⟨H, 9, none⟩ (.int .i64 si)).setCell ⟨H, 10, none⟩ (.int .i64 so) := ⟨_, rfl⟩
  have L3 : Arr T H 154 [.slice (some ⟨b, o, none⟩) 3072 cb, .slice aw nw cw, .int .i64 (k : Int), .int .i64 gn, .int .i64 (U : Int), .int .i64 sb, .int .i64 sn, .int .i64 sf, .bool st, .int .i64 si, .int .i64 so] := by rw [hT]; exact (((((L2.set 5 _).set 6 _).set 7 _).set 8 _).set 9 _).set 10 _
  have Q : Arr T G 154 [.slice none 0 0, .slice none 0 0, .int .i64 0, .int .i64 0, .int .i64 0, .int .i64 0, .int .i64 0, .int .i64 0, .bool false, .int .i64 0, .int .i64 0] := by
    have hne : G ≠ H := by omega
    rw [hT]
    exact (((((Q2.other ⟨H, 5, none⟩ _ hne).other ⟨H, 6, none⟩ _ hne).other ⟨H, 7, none⟩ _ hne).other ⟨H, 8, none⟩ _ hne).other ⟨H, 9, none⟩ _ hne).other ⟨H, 10, none⟩ _ hne
  have B : Below w.heap.size w T := by
    have hle : w.heap.size ≤ H := by omega
    rw [hT]
    exact (((((B2.setCell (p := ⟨H, 5, none⟩) hle _).setCell (p := ⟨H, 6, none⟩) hle _).setCell (p := ⟨H, 7, none⟩) hle _).setCell (p := ⟨H, 8, none⟩) hle _).setCell (p := ⟨H, 9, none⟩) hle _).setCell (p := ⟨H, 10, none⟩) hle _
  go_upto_region 9 with fail
  rw [← hT]
  clear hT l0 l1 l2 l3 l4 l5 l6 l7 l8 l9 l10 fL lL L2 Q2 B2
  have l0 := L3.cell 0
  have l1 := L3.cell 1
  have l2 := L3.cell 2
  have l3 := L3.cell 3
  have l4 := L3.cell 4
  have l5 := L3.cell 5
  have l6 := L3.cell 6
  have l7 := L3.cell 7
  have l8 := L3.cell 8
  have l9 := L3.cell 9
  have l10 := L3.cell 10
  simp at l0 l1 l2 l3 l4 l5 l6 l7 l8 l9 l10
  have q0 := Q.cell 0
  have q1 := Q.cell 1
  have q2 := Q.cell 2
  have q3 := Q.cell 3
  have q4 := Q.cell 4
  have q5 := Q.cell 5
  have q6 := Q.cell 6
  have q7 := Q.cell 7
  have q8 := Q.cell 8
  have q9 := Q.cell 9
  have q10 := Q.cell 10
  simp at q0 q1 q2 q3 q4 q5 q6 q7 q8 q9 q10
  have fQ := Q.frozen
  have lQ := Q.lt
  have HK : Hid _ := set11 Q (.slice (some ⟨b, o, none⟩) 3072 cb) (.slice aw nw cw) (.int .i64 (k : Int)) (.int .i64 gn) (.int .i64 (U : Int)) (.int .i64 sb) (.int .i64 sn) (.int .i64 sf) (.bool st) (.int .i64 si) (.int .i64 so)
  have HB : Hid _ := bel_set11 B hGw (.slice (some ⟨b, o, none⟩) 3072 cb) (.slice aw nw cw) (.int .i64 (k : Int)) (.int .i64 gn) (.int .i64 (U : Int)) (.int .i64 sb) (.int .i64 sn) (.int .i64 sf) (.bool st) (.int .i64 si) (.int .i64 so)
  clear Q B
  go_wp2
  exact bodyPost_ret (results_row_tmp (v := .bool ok) (t := 154) (cs := [.slice (some ⟨b, o, none⟩) 3072 cb, .slice aw nw cw, .int .i64 (k : Int), .int .i64 gn, .int .i64 (U : Int), .int .i64 sb, .int .i64 sn, .int .i64 sf, .bool st, .int .i64 si, .int .i64 so]) rfl rfl rfl HK.out Try.underlying154 rfl (by kernel_rfl)) rfl ⟨by rw [HL.out], HB.out⟩
end Go.Proofs.Ytgfjbaigmkdbcaa

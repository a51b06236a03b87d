/-
  What is proved here: contracts of the program's fieldJoin, FeAdd, FeSub and FeMul; where the program's variable holds the prime.
-/
import Derived.Test.YtpchdfdeomhakaaDoorZJi
import Derived.Test.YtpchdfdeomhakaaDoorZFx
namespace Go.Proofs.YtpchdfdeomhakaaDoor
open Go.RowKit
set_option maxRecDepth 100000

theorem own_rowN {w : World} {b e s n : Nat} {v : Value} {xs : List Value} (h : w.ownsRow b e s v n xs) (k : Nat) (cs : Array Value) (hk : k < b) : (w.setRow k cs).ownsRow b e s v n xs := by
  refine ⟨h.1, ?_⟩
  rcases h.2 with hn | ⟨g, cap, cur, rfl, hg, hgg, rest⟩
  · exact .inl hn
  · exact .inr ⟨g, cap, cur, rfl, hg, (setRow_other w k g cs (by omega)).trans hgg, rest⟩

set_option maxHeartbeats 4000000 in
theorem implJoinSum (a : Option Addr) (n c : Nat) (xs : List Int) (b : Option Addr) (m d : Nat) (ys R : List Int) (w : World) (hx : Is w a n c xs) (hy : Is w b m d ys) (hV : Vr w 0 (I64 PL)) (hRl : R.length = 16)
    (HJ : feOk xs = true → feOk ys = true → ∀ Z, Vr Z 0 (I64 PL) → Calls Tryd.prog 52 #[.agg (I64 xs).toArray, .agg (I64 ys).toArray] Z fun e w' => e = .returned (.agg (I64 R).toArray) ∧ Below Z.heap.size Z w') :
    Calls Tryd.prog 51 #[.agg #[.slice a n c], .agg #[.slice b m d], .func (.func 52) #[] #[]] w fun e w' => ∃ v, e = .returned (.tuple #[v, .bool (feOk xs && feOk ys)]) ∧ FeT 57 w w' v (if (feOk xs && feOk ys) = true then R else []) ∧ Below w.heap.size w w' := by
  have EE : F3 w _ (.slice a n c) (.slice b m d) := F3.new w (.slice a n c) (.slice b m d)
  obtain ⟨W, hW⟩ : ∃ W, W = ((w.alloc (.cells #[.slice a n c] 25)).alloc (.cells #[.slice b m d] 25)).alloc (.cells #[.slice none 0 0] 25) := ⟨_, rfl⟩
  rw [← hW] at EE
  have HO1 : Hid (∀ Z, Below w.heap.size w Z → Calls Tryd.prog 56 #[.agg #[.slice a n c]] Z fun e w' => e = .returned (.tuple #[.agg (I64 (lmL xs)).toArray, .bool (feOk xs)]) ∧ Below Z.heap.size Z w') := by
    unfold Hid; intro Z hZ; exact implOpen a n c xs Z (hx.below hZ) (hV.kept hZ)
  have HO2 : Hid (∀ Z, Below w.heap.size w Z → Calls Tryd.prog 56 #[.agg #[.slice b m d]] Z fun e w' => e = .returned (.tuple #[.agg (I64 (lmL ys)).toArray, .bool (feOk ys)]) ∧ Below Z.heap.size Z w') := by
    unfold Hid; intro Z hZ; exact implOpen b m d ys Z (hy.below hZ) (hV.kept hZ)
  have HJ' : Hid (feOk xs = true → feOk ys = true → ∀ Z, Below w.heap.size w Z → Calls Tryd.prog 52 #[.agg (I64 (lmL xs)).toArray, .agg (I64 (lmL ys)).toArray] Z fun e w' => e = .returned (.agg (I64 R).toArray) ∧ Below Z.heap.size Z w') := by
    unfold Hid; intro h1 h2 Z hZ
    rw [lmL_of h1, lmL_of h2]
    exact HJ h1 h2 Z (hV.kept hZ)
  have l1 := lmL_len xs
  have l2 := lmL_len ys
  obtain ⟨L1, hL1⟩ : ∃ L, L = lmL xs := ⟨_, rfl⟩
  obtain ⟨L2, hL2⟩ : ∃ L, L = lmL ys := ⟨_, rfl⟩
  obtain ⟨p, hp⟩ : ∃ p, p = feOk xs := ⟨_, rfl⟩
  obtain ⟨q, hq⟩ : ∃ q, q = feOk ys := ⟨_, rfl⟩
  rw [← hL1] at HO1 HJ' l1
  rw [← hL2] at HO2 HJ' l2
  rw [← hp] at HO1 HJ' ⊢
  rw [← hq] at HO2 HJ' ⊢
  clear hL1 hL2 hp hq HJ hx hy hV
  have hi1 : (Tryd.prog.info? 57).map (·.size) = some (I64 L1).toArray.size := by simpa [l1] using infoL
  have hi2 : (Tryd.prog.info? 57).map (·.size) = some (I64 L2).toArray.size := by simpa [l2] using infoL
  go_enter Tryd.func51, Tryd.ntmps51
  go_wp2_with fail
  rw [← hW]
  clear hW
  refine (HO1.out _ EE.fr).mono ?_
  rintro e w1 ⟨rfl, hb1⟩
  replace EE := EE.go hb1
  clear hb1 HO1
  have q1 : Arr (w1.alloc (.cells #[.int .i64 0, .int .i64 0, .int .i64 0, .int .i64 0, .int .i64 0, .int .i64 0, .int .i64 0, .int .i64 0, .int .i64 0, .int .i64 0, .int .i64 0, .int .i64 0, .int .i64 0, .int .i64 0, .int .i64 0, .int .i64 0] 57)) w1.heap.size 57 (I64 Z16) := Arr.new w1 (I64 Z16) _
  have bA : Below w1.heap.size w1 (w1.alloc (.cells #[.int .i64 0, .int .i64 0, .int .i64 0, .int .i64 0, .int .i64 0, .int .i64 0, .int .i64 0, .int .i64 0, .int .i64 0, .int .i64 0, .int .i64 0, .int .i64 0, .int .i64 0, .int .i64 0, .int .i64 0, .int .i64 0] 57)) := (Below.refl _ _).alloc (Nat.le_refl _) _
  obtain ⟨V1, hV1⟩ : ∃ V, V = (w1.alloc (.cells #[.int .i64 0, .int .i64 0, .int .i64 0, .int .i64 0, .int .i64 0, .int .i64 0, .int .i64 0, .int .i64 0, .int .i64 0, .int .i64 0, .int .i64 0, .int .i64 0, .int .i64 0, .int .i64 0, .int .i64 0, .int .i64 0] 57)).setRow w1.heap.size (I64 L1).toArray := ⟨_, rfl⟩
  have bV : Below w1.heap.size w1 V1 := by rw [hV1]; exact setRow_below bA _ _ (Nat.le_refl _)
  have pV : Arr V1 w1.heap.size 57 (I64 L1) := by rw [hV1]; exact q1.row _
  replace EE := EE.go bV
  have hcb : V1.cell? ⟨w.heap.size + 1, 0, none⟩ = some (.slice b m d) := EE.pb.cell 0
  rw [hV1] at hcb
  obtain ⟨E1, hE1⟩ : ∃ E, E = w1.heap.size := ⟨_, rfl⟩
  have HV1 : Hid _ := hV1
  have HE1 : Hid _ := hE1
  clear hV1 hE1 bA bV
  go_wp2_with (refine wpList_store_row rfl 57 _ _ rfl w1.heap.size (I64 L1).toArray rfl rfl 57 _ q1 hi1 (by simp [l1]) (by simp [Value.oneCell']) ?_)
  rw [← HV1.out]
  rw [← HE1.out] at pV ⊢
  clear HV1 HE1 q1 hcb
  refine (HO2.out _ EE.fr).mono ?_
  rintro e w2 ⟨rfl, hb2⟩
  replace EE := EE.go hb2
  have pW := pV.kept hb2
  clear hb2 HO2 pV
  have q2 : Arr (w2.alloc (.cells #[.int .i64 0, .int .i64 0, .int .i64 0, .int .i64 0, .int .i64 0, .int .i64 0, .int .i64 0, .int .i64 0, .int .i64 0, .int .i64 0, .int .i64 0, .int .i64 0, .int .i64 0, .int .i64 0, .int .i64 0, .int .i64 0] 57)) w2.heap.size 57 (I64 Z16) := Arr.new w2 (I64 Z16) _
  have bA : Below w2.heap.size w2 (w2.alloc (.cells #[.int .i64 0, .int .i64 0, .int .i64 0, .int .i64 0, .int .i64 0, .int .i64 0, .int .i64 0, .int .i64 0, .int .i64 0, .int .i64 0, .int .i64 0, .int .i64 0, .int .i64 0, .int .i64 0, .int .i64 0, .int .i64 0] 57)) := (Below.refl _ _).alloc (Nat.le_refl _) _
  obtain ⟨V2, hV2⟩ : ∃ V, V = (w2.alloc (.cells #[.int .i64 0, .int .i64 0, .int .i64 0, .int .i64 0, .int .i64 0, .int .i64 0, .int .i64 0, .int .i64 0, .int .i64 0, .int .i64 0, .int .i64 0, .int .i64 0, .int .i64 0, .int .i64 0, .int .i64 0, .int .i64 0] 57)).setRow w2.heap.size (I64 L2).toArray := ⟨_, rfl⟩
  have bV : Below w2.heap.size w2 V2 := by rw [hV2]; exact setRow_below bA _ _ (Nat.le_refl _)
  have pV2 : Arr V2 w2.heap.size 57 (I64 L2) := by rw [hV2]; exact q2.row _
  have pV1 := pW.kept bV
  replace EE := EE.go bV
  have HV2 : Hid _ := hV2
  obtain ⟨E2, hE2⟩ : ∃ E, E = w2.heap.size := ⟨_, rfl⟩
  have HE2 : Hid _ := hE2
  clear bA bV pW hE2
  cases hpq : (p && q) with
  | false =>
    have hcr : V2.cell? ⟨w.heap.size + 1 + 1, 0, none⟩ = some (.slice none 0 0) := EE.pr.cell 0
    have hfr := EE.pr.frozen 0
    have HA : Hid _ := EE.pr.set 0 (.slice none 0 0)
    have HB : Hid _ := EE.fr.setCell (p := ⟨w.heap.size + 1 + 1, 0, none⟩) (by show w.heap.size ≤ w.heap.size + 1 + 1; omega) (.slice none 0 0)
    rw [hV2] at hcr hfr HA HB
    clear EE pV2 pV1 HJ' hV2 HV2
    cases p with
    | false =>
      go_wp2_with (refine wpList_store_row rfl 57 _ _ rfl w2.heap.size (I64 L2).toArray rfl rfl 57 _ q2 hi2 (by simp [l2]) (by simp [Value.oneCell']) ?_)
      exact bodyPost_ret (results_row_tmp (v := .bool false) (cs := [.slice none 0 0]) rfl rfl rfl HA.out Tryd.underlying25 rfl infoFe) rfl ⟨_, rfl, feT_nil _ _ _, HB.out⟩
    | true =>
      obtain rfl : q = false := hpq
      go_wp2_with (refine wpList_store_row rfl 57 _ _ rfl w2.heap.size (I64 L2).toArray rfl rfl 57 _ q2 hi2 (by simp [l2]) (by simp [Value.oneCell']) ?_)
      exact bodyPost_ret (results_row_tmp (v := .bool false) (cs := [.slice none 0 0]) rfl rfl rfl HA.out Tryd.underlying25 rfl infoFe) rfl ⟨_, rfl, feT_nil _ _ _, HB.out⟩
  | true =>
    obtain ⟨rfl, rfl⟩ : p = true ∧ q = true := by simpa using hpq
    have HJ2 : Hid (∀ Z, Below w.heap.size w Z → Calls Tryd.prog 52 #[.agg (I64 L1).toArray, .agg (I64 L2).toArray] Z fun e w' => e = .returned (.agg (I64 R).toArray) ∧ Below Z.heap.size Z w') := HJ'.out rfl rfl
    have d1 := hV2 ▸ pV1
    have d2 := hV2 ▸ pV2
    clear HJ' hV2 hpq
    go_wp2_with (first
      | (refine wpList_store_row rfl 57 _ _ rfl w2.heap.size (I64 L2).toArray rfl rfl 57 _ q2 hi2 (by simp [l2]) (by simp [Value.oneCell']) ?_)
      | (refine wpList_load_row rfl 57 _ rfl E1 rfl 57 (I64 L1).toArray (0, 0) _ d1 Tryd.underlying57 rfl hi1 ?_)
      | (refine wpList_load_row rfl 57 _ rfl w2.heap.size rfl 57 (I64 L2).toArray (0, 0) _ d2 Tryd.underlying57 rfl hi2 ?_))
    rw [← HV2.out]
    clear q2 d1 d2 HV2
    refine (HJ2.out _ EE.fr).mono ?_
    rintro e w3 ⟨rfl, hb3⟩
    replace EE := EE.go hb3
    clear hb3 HJ2 pV1 pV2 HE2
    go_wp2_with fail
    refine (implList R _ hRl).mono ?_
    rintro e w4 ⟨a', c', rfl, ho, hb4⟩
    have hlt := EE.pr.lt
    have hsz := EE.fr.size
    replace EE := EE.go hb4
    have HOW : Hid _ := own_base (own_other' ho ⟨w.heap.size + 1 + 1, 0, none⟩ (.slice a' 16 c') hlt) hsz
    have hcr : w4.cell? ⟨w.heap.size + 1 + 1, 0, none⟩ = some (.slice none 0 0) := EE.pr.cell 0
    have hfr := EE.pr.frozen 0
    have HA : Hid _ := EE.pr.set 0 (.slice a' 16 c')
    have HB : Hid _ := EE.fr.setCell (p := ⟨w.heap.size + 1 + 1, 0, none⟩) (by show w.heap.size ≤ w.heap.size + 1 + 1; omega) (.slice a' 16 c')
    clear EE ho hb4 hsz hlt
    go_wp2
    exact bodyPost_ret (results_row_tmp (v := .bool true) (cs := [.slice a' 16 c']) rfl rfl rfl HA.out Tryd.underlying25 rfl infoFe) rfl ⟨_, rfl, feT_16 hRl HOW.out, HB.out⟩

set_option maxHeartbeats 4000000 in
theorem implJoinDiff (a : Option Addr) (n c : Nat) (xs : List Int) (b : Option Addr) (m d : Nat) (ys R : List Int) (w : World) (hx : Is w a n c xs) (hy : Is w b m d ys) (hV : Vr w 0 (I64 PL)) (hRl : R.length = 16)
    (HJ : feOk xs = true → feOk ys = true → ∀ Z, Vr Z 0 (I64 PL) → Calls Tryd.prog 55 #[.agg (I64 xs).toArray, .agg (I64 ys).toArray] Z fun e w' => e = .returned (.agg (I64 R).toArray) ∧ Below Z.heap.size Z w') :
    Calls Tryd.prog 51 #[.agg #[.slice a n c], .agg #[.slice b m d], .func (.func 55) #[] #[]] w fun e w' => ∃ v, e = .returned (.tuple #[v, .bool (feOk xs && feOk ys)]) ∧ FeT 57 w w' v (if (feOk xs && feOk ys) = true then R else []) ∧ Below w.heap.size w w' := by
  have EE : F3 w _ (.slice a n c) (.slice b m d) := F3.new w (.slice a n c) (.slice b m d)
  obtain ⟨W, hW⟩ : ∃ W, W = ((w.alloc (.cells #[.slice a n c] 25)).alloc (.cells #[.slice b m d] 25)).alloc (.cells #[.slice none 0 0] 25) := ⟨_, rfl⟩
  rw [← hW] at EE
  have HO1 : Hid (∀ Z, Below w.heap.size w Z → Calls Tryd.prog 56 #[.agg #[.slice a n c]] Z fun e w' => e = .returned (.tuple #[.agg (I64 (lmL xs)).toArray, .bool (feOk xs)]) ∧ Below Z.heap.size Z w') := by
    unfold Hid; intro Z hZ; exact implOpen a n c xs Z (hx.below hZ) (hV.kept hZ)
  have HO2 : Hid (∀ Z, Below w.heap.size w Z → Calls Tryd.prog 56 #[.agg #[.slice b m d]] Z fun e w' => e = .returned (.tuple #[.agg (I64 (lmL ys)).toArray, .bool (feOk ys)]) ∧ Below Z.heap.size Z w') := by
    unfold Hid; intro Z hZ; exact implOpen b m d ys Z (hy.below hZ) (hV.kept hZ)
  have HJ' : Hid (feOk xs = true → feOk ys = true → ∀ Z, Below w.heap.size w Z → Calls Tryd.prog 55 #[.agg (I64 (lmL xs)).toArray, .agg (I64 (lmL ys)).toArray] Z fun e w' => e = .returned (.agg (I64 R).toArray) ∧ Below Z.heap.size Z w') := by
    unfold Hid; intro h1 h2 Z hZ
    rw [lmL_of h1, lmL_of h2]
    exact HJ h1 h2 Z (hV.kept hZ)
  have l1 := lmL_len xs
  have l2 := lmL_len ys
  obtain ⟨L1, hL1⟩ : ∃ L, L = lmL xs := ⟨_, rfl⟩
  obtain ⟨L2, hL2⟩ : ∃ L, L = lmL ys := ⟨_, rfl⟩
  obtain ⟨p, hp⟩ : ∃ p, p = feOk xs := ⟨_, rfl⟩
  obtain ⟨q, hq⟩ : ∃ q, q = feOk ys := ⟨_, rfl⟩
  rw [← hL1] at HO1 HJ' l1
  rw [← hL2] at HO2 HJ' l2
  rw [← hp] at HO1 HJ' ⊢
  rw [← hq] at HO2 HJ' ⊢
  clear hL1 hL2 hp hq HJ hx hy hV
  have hi1 : (Tryd.prog.info? 57).map (·.size) = some (I64 L1).toArray.size := by simpa [l1] using infoL
  have hi2 : (Tryd.prog.info? 57).map (·.size) = some (I64 L2).toArray.size := by simpa [l2] using infoL
  go_enter Tryd.func51, Tryd.ntmps51
  go_wp2_with fail
  rw [← hW]
  clear hW
  refine (HO1.out _ EE.fr).mono ?_
  rintro e w1 ⟨rfl, hb1⟩
  replace EE := EE.go hb1
  clear hb1 HO1
  have q1 : Arr (w1.alloc (.cells #[.int .i64 0, .int .i64 0, .int .i64 0, .int .i64 0, .int .i64 0, .int .i64 0, .int .i64 0, .int .i64 0, .int .i64 0, .int .i64 0, .int .i64 0, .int .i64 0, .int .i64 0, .int .i64 0, .int .i64 0, .int .i64 0] 57)) w1.heap.size 57 (I64 Z16) := Arr.new w1 (I64 Z16) _
  have bA : Below w1.heap.size w1 (w1.alloc (.cells #[.int .i64 0, .int .i64 0, .int .i64 0, .int .i64 0, .int .i64 0, .int .i64 0, .int .i64 0, .int .i64 0, .int .i64 0, .int .i64 0, .int .i64 0, .int .i64 0, .int .i64 0, .int .i64 0, .int .i64 0, .int .i64 0] 57)) := (Below.refl _ _).alloc (Nat.le_refl _) _
  obtain ⟨V1, hV1⟩ : ∃ V, V = (w1.alloc (.cells #[.int .i64 0, .int .i64 0, .int .i64 0, .int .i64 0, .int .i64 0, .int .i64 0, .int .i64 0, .int .i64 0, .int .i64 0, .int .i64 0, .int .i64 0, .int .i64 0, .int .i64 0, .int .i64 0, .int .i64 0, .int .i64 0] 57)).setRow w1.heap.size (I64 L1).toArray := ⟨_, rfl⟩
  have bV : Below w1.heap.size w1 V1 := by rw [hV1]; exact setRow_below bA _ _ (Nat.le_refl _)
  have pV : Arr V1 w1.heap.size 57 (I64 L1) := by rw [hV1]; exact q1.row _
  replace EE := EE.go bV
  have hcb : V1.cell? ⟨w.heap.size + 1, 0, none⟩ = some (.slice b m d) := EE.pb.cell 0
  rw [hV1] at hcb
  obtain ⟨E1, hE1⟩ : ∃ E, E = w1.heap.size := ⟨_, rfl⟩
  have HV1 : Hid _ := hV1
  have HE1 : Hid _ := hE1
  clear hV1 hE1 bA bV
  go_wp2_with (refine wpList_store_row rfl 57 _ _ rfl w1.heap.size (I64 L1).toArray rfl rfl 57 _ q1 hi1 (by simp [l1]) (by simp [Value.oneCell']) ?_)
  rw [← HV1.out]
  rw [← HE1.out] at pV ⊢
  clear HV1 HE1 q1 hcb
  refine (HO2.out _ EE.fr).mono ?_
  rintro e w2 ⟨rfl, hb2⟩
  replace EE := EE.go hb2
  have pW := pV.kept hb2
  clear hb2 HO2 pV
  have q2 : Arr (w2.alloc (.cells #[.int .i64 0, .int .i64 0, .int .i64 0, .int .i64 0, .int .i64 0, .int .i64 0, .int .i64 0, .int .i64 0, .int .i64 0, .int .i64 0, .int .i64 0, .int .i64 0, .int .i64 0, .int .i64 0, .int .i64 0, .int .i64 0] 57)) w2.heap.size 57 (I64 Z16) := Arr.new w2 (I64 Z16) _
  have bA : Below w2.heap.size w2 (w2.alloc (.cells #[.int .i64 0, .int .i64 0, .int .i64 0, .int .i64 0, .int .i64 0, .int .i64 0, .int .i64 0, .int .i64 0, .int .i64 0, .int .i64 0, .int .i64 0, .int .i64 0, .int .i64 0, .int .i64 0, .int .i64 0, .int .i64 0] 57)) := (Below.refl _ _).alloc (Nat.le_refl _) _
  obtain ⟨V2, hV2⟩ : ∃ V, V = (w2.alloc (.cells #[.int .i64 0, .int .i64 0, .int .i64 0, .int .i64 0, .int .i64 0, .int .i64 0, .int .i64 0, .int .i64 0, .int .i64 0, .int .i64 0, .int .i64 0, .int .i64 0, .int .i64 0, .int .i64 0, .int .i64 0, .int .i64 0] 57)).setRow w2.heap.size (I64 L2).toArray := ⟨_, rfl⟩
  have bV : Below w2.heap.size w2 V2 := by rw [hV2]; exact setRow_below bA _ _ (Nat.le_refl _)
  have pV2 : Arr V2 w2.heap.size 57 (I64 L2) := by rw [hV2]; exact q2.row _
  have pV1 := pW.kept bV
  replace EE := EE.go bV
  have HV2 : Hid _ := hV2
  obtain ⟨E2, hE2⟩ : ∃ E, E = w2.heap.size := ⟨_, rfl⟩
  have HE2 : Hid _ := hE2
  clear bA bV pW hE2
  cases hpq : (p && q) with
  | false =>
    have hcr : V2.cell? ⟨w.heap.size + 1 + 1, 0, none⟩ = some (.slice none 0 0) := EE.pr.cell 0
    have hfr := EE.pr.frozen 0
    have HA : Hid _ := EE.pr.set 0 (.slice none 0 0)
    have HB : Hid _ := EE.fr.setCell (p := ⟨w.heap.size + 1 + 1, 0, none⟩) (by show w.heap.size ≤ w.heap.size + 1 + 1; omega) (.slice none 0 0)
    rw [hV2] at hcr hfr HA HB
    clear EE pV2 pV1 HJ' hV2 HV2
    cases p with
    | false =>
      go_wp2_with (refine wpList_store_row rfl 57 _ _ rfl w2.heap.size (I64 L2).toArray rfl rfl 57 _ q2 hi2 (by simp [l2]) (by simp [Value.oneCell']) ?_)
      exact bodyPost_ret (results_row_tmp (v := .bool false) (cs := [.slice none 0 0]) rfl rfl rfl HA.out Tryd.underlying25 rfl infoFe) rfl ⟨_, rfl, feT_nil _ _ _, HB.out⟩
    | true =>
      obtain rfl : q = false := hpq
      go_wp2_with (refine wpList_store_row rfl 57 _ _ rfl w2.heap.size (I64 L2).toArray rfl rfl 57 _ q2 hi2 (by simp [l2]) (by simp [Value.oneCell']) ?_)
      exact bodyPost_ret (results_row_tmp (v := .bool false) (cs := [.slice none 0 0]) rfl rfl rfl HA.out Tryd.underlying25 rfl infoFe) rfl ⟨_, rfl, feT_nil _ _ _, HB.out⟩
  | true =>
    obtain ⟨rfl, rfl⟩ : p = true ∧ q = true := by simpa using hpq
    have HJ2 : Hid (∀ Z, Below w.heap.size w Z → Calls Tryd.prog 55 #[.agg (I64 L1).toArray, .agg (I64 L2).toArray] Z fun e w' => e = .returned (.agg (I64 R).toArray) ∧ Below Z.heap.size Z w') := HJ'.out rfl rfl
    have d1 := hV2 ▸ pV1
    have d2 := hV2 ▸ pV2
    clear HJ' hV2 hpq
    go_wp2_with (first
      | (refine wpList_store_row rfl 57 _ _ rfl w2.heap.size (I64 L2).toArray rfl rfl 57 _ q2 hi2 (by simp [l2]) (by simp [Value.oneCell']) ?_)
      | (refine wpList_load_row rfl 57 _ rfl E1 rfl 57 (I64 L1).toArray (0, 0) _ d1 Tryd.underlying57 rfl hi1 ?_)
      | (refine wpList_load_row rfl 57 _ rfl w2.heap.size rfl 57 (I64 L2).toArray (0, 0) _ d2 Tryd.underlying57 rfl hi2 ?_))
    rw [← HV2.out]
    clear q2 d1 d2 HV2
    refine (HJ2.out _ EE.fr).mono ?_
    rintro e w3 ⟨rfl, hb3⟩
    replace EE := EE.go hb3
    clear hb3 HJ2 pV1 pV2 HE2
    go_wp2_with fail
    refine (implList R _ hRl).mono ?_
    rintro e w4 ⟨a', c', rfl, ho, hb4⟩
    have hlt := EE.pr.lt
    have hsz := EE.fr.size
    replace EE := EE.go hb4
    have HOW : Hid _ := own_base (own_other' ho ⟨w.heap.size + 1 + 1, 0, none⟩ (.slice a' 16 c') hlt) hsz
    have hcr : w4.cell? ⟨w.heap.size + 1 + 1, 0, none⟩ = some (.slice none 0 0) := EE.pr.cell 0
    have hfr := EE.pr.frozen 0
    have HA : Hid _ := EE.pr.set 0 (.slice a' 16 c')
    have HB : Hid _ := EE.fr.setCell (p := ⟨w.heap.size + 1 + 1, 0, none⟩) (by show w.heap.size ≤ w.heap.size + 1 + 1; omega) (.slice a' 16 c')
    clear EE ho hb4 hsz hlt
    go_wp2
    exact bodyPost_ret (results_row_tmp (v := .bool true) (cs := [.slice a' 16 c']) rfl rfl rfl HA.out Tryd.underlying25 rfl infoFe) rfl ⟨_, rfl, feT_16 hRl HOW.out, HB.out⟩

set_option maxHeartbeats 4000000 in
theorem implJoinProd (a : Option Addr) (n c : Nat) (xs : List Int) (b : Option Addr) (m d : Nat) (ys R : List Int) (w : World) (hx : Is w a n c xs) (hy : Is w b m d ys) (hV : Vr w 0 (I64 PL)) (hRl : R.length = 16)
    (HJ : feOk xs = true → feOk ys = true → ∀ Z, Vr Z 0 (I64 PL) → Calls Tryd.prog 54 #[.agg (I64 xs).toArray, .agg (I64 ys).toArray] Z fun e w' => e = .returned (.agg (I64 R).toArray) ∧ Below Z.heap.size Z w') :
    Calls Tryd.prog 51 #[.agg #[.slice a n c], .agg #[.slice b m d], .func (.func 54) #[] #[]] w fun e w' => ∃ v, e = .returned (.tuple #[v, .bool (feOk xs && feOk ys)]) ∧ FeT 57 w w' v (if (feOk xs && feOk ys) = true then R else []) ∧ Below w.heap.size w w' := by
  have EE : F3 w _ (.slice a n c) (.slice b m d) := F3.new w (.slice a n c) (.slice b m d)
  obtain ⟨W, hW⟩ : ∃ W, W = ((w.alloc (.cells #[.slice a n c] 25)).alloc (.cells #[.slice b m d] 25)).alloc (.cells #[.slice none 0 0] 25) := ⟨_, rfl⟩
  rw [← hW] at EE
  have HO1 : Hid (∀ Z, Below w.heap.size w Z → Calls Tryd.prog 56 #[.agg #[.slice a n c]] Z fun e w' => e = .returned (.tuple #[.agg (I64 (lmL xs)).toArray, .bool (feOk xs)]) ∧ Below Z.heap.size Z w') := by
    unfold Hid; intro Z hZ; exact implOpen a n c xs Z (hx.below hZ) (hV.kept hZ)
  have HO2 : Hid (∀ Z, Below w.heap.size w Z → Calls Tryd.prog 56 #[.agg #[.slice b m d]] Z fun e w' => e = .returned (.tuple #[.agg (I64 (lmL ys)).toArray, .bool (feOk ys)]) ∧ Below Z.heap.size Z w') := by
    unfold Hid; intro Z hZ; exact implOpen b m d ys Z (hy.below hZ) (hV.kept hZ)
  have HJ' : Hid (feOk xs = true → feOk ys = true → ∀ Z, Below w.heap.size w Z → Calls Tryd.prog 54 #[.agg (I64 (lmL xs)).toArray, .agg (I64 (lmL ys)).toArray] Z fun e w' => e = .returned (.agg (I64 R).toArray) ∧ Below Z.heap.size Z w') := by
    unfold Hid; intro h1 h2 Z hZ
    rw [lmL_of h1, lmL_of h2]
    exact HJ h1 h2 Z (hV.kept hZ)
  have l1 := lmL_len xs
  have l2 := lmL_len ys
  obtain ⟨L1, hL1⟩ : ∃ L, L = lmL xs := ⟨_, rfl⟩
  obtain ⟨L2, hL2⟩ : ∃ L, L = lmL ys := ⟨_, rfl⟩
  obtain ⟨p, hp⟩ : ∃ p, p = feOk xs := ⟨_, rfl⟩
  obtain ⟨q, hq⟩ : ∃ q, q = feOk ys := ⟨_, rfl⟩
  rw [← hL1] at HO1 HJ' l1
  rw [← hL2] at HO2 HJ' l2
  rw [← hp] at HO1 HJ' ⊢
  rw [← hq] at HO2 HJ' ⊢
  clear hL1 hL2 hp hq HJ hx hy hV
  have hi1 : (Tryd.prog.info? 57).map (·.size) = some (I64 L1).toArray.size := by simpa [l1] using infoL
  have hi2 : (Tryd.prog.info? 57).map (·.size) = some (I64 L2).toArray.size := by simpa [l2] using infoL
  go_enter Tryd.func51, Tryd.ntmps51
  go_wp2_with fail
  rw [← hW]
  clear hW
  refine (HO1.out _ EE.fr).mono ?_
  rintro e w1 ⟨rfl, hb1⟩
  replace EE := EE.go hb1
  clear hb1 HO1
  have q1 : Arr (w1.alloc (.cells #[.int .i64 0, .int .i64 0, .int .i64 0, .int .i64 0, .int .i64 0, .int .i64 0, .int .i64 0, .int .i64 0, .int .i64 0, .int .i64 0, .int .i64 0, .int .i64 0, .int .i64 0, .int .i64 0, .int .i64 0, .int .i64 0] 57)) w1.heap.size 57 (I64 Z16) := Arr.new w1 (I64 Z16) _
  have bA : Below w1.heap.size w1 (w1.alloc (.cells #[.int .i64 0, .int .i64 0, .int .i64 0, .int .i64 0, .int .i64 0, .int .i64 0, .int .i64 0, .int .i64 0, .int .i64 0, .int .i64 0, .int .i64 0, .int .i64 0, .int .i64 0, .int .i64 0, .int .i64 0, .int .i64 0] 57)) := (Below.refl _ _).alloc (Nat.le_refl _) _
  obtain ⟨V1, hV1⟩ : ∃ V, V = (w1.alloc (.cells #[.int .i64 0, .int .i64 0, .int .i64 0, .int .i64 0, .int .i64 0, .int .i64 0, .int .i64 0, .int .i64 0, .int .i64 0, .int .i64 0, .int .i64 0, .int .i64 0, .int .i64 0, .int .i64 0, .int .i64 0, .int .i64 0] 57)).setRow w1.heap.size (I64 L1).toArray := ⟨_, rfl⟩
  have bV : Below w1.heap.size w1 V1 := by rw [hV1]; exact setRow_below bA _ _ (Nat.le_refl _)
  have pV : Arr V1 w1.heap.size 57 (I64 L1) := by rw [hV1]; exact q1.row _
  replace EE := EE.go bV
  have hcb : V1.cell? ⟨w.heap.size + 1, 0, none⟩ = some (.slice b m d) := EE.pb.cell 0
  rw [hV1] at hcb
  obtain ⟨E1, hE1⟩ : ∃ E, E = w1.heap.size := ⟨_, rfl⟩
  have HV1 : Hid _ := hV1
  have HE1 : Hid _ := hE1
  clear hV1 hE1 bA bV
  go_wp2_with (refine wpList_store_row rfl 57 _ _ rfl w1.heap.size (I64 L1).toArray rfl rfl 57 _ q1 hi1 (by simp [l1]) (by simp [Value.oneCell']) ?_)
  rw [← HV1.out]
  rw [← HE1.out] at pV ⊢
  clear HV1 HE1 q1 hcb
  refine (HO2.out _ EE.fr).mono ?_
  rintro e w2 ⟨rfl, hb2⟩
  replace EE := EE.go hb2
  have pW := pV.kept hb2
  clear hb2 HO2 pV
  have q2 : Arr (w2.alloc (.cells #[.int .i64 0, .int .i64 0, .int .i64 0, .int .i64 0, .int .i64 0, .int .i64 0, .int .i64 0, .int .i64 0, .int .i64 0, .int .i64 0, .int .i64 0, .int .i64 0, .int .i64 0, .int .i64 0, .int .i64 0, .int .i64 0] 57)) w2.heap.size 57 (I64 Z16) := Arr.new w2 (I64 Z16) _
  have bA : Below w2.heap.size w2 (w2.alloc (.cells #[.int .i64 0, .int .i64 0, .int .i64 0, .int .i64 0, .int .i64 0, .int .i64 0, .int .i64 0, .int .i64 0, .int .i64 0, .int .i64 0, .int .i64 0, .int .i64 0, .int .i64 0, .int .i64 0, .int .i64 0, .int .i64 0] 57)) := (Below.refl _ _).alloc (Nat.le_refl _) _
  obtain ⟨V2, hV2⟩ : ∃ V, V = (w2.alloc (.cells #[.int .i64 0, .int .i64 0, .int .i64 0, .int .i64 0, .int .i64 0, .int .i64 0, .int .i64 0, .int .i64 0, .int .i64 0, .int .i64 0, .int .i64 0, .int .i64 0, .int .i64 0, .int .i64 0, .int .i64 0, .int .i64 0] 57)).setRow w2.heap.size (I64 L2).toArray := ⟨_, rfl⟩
  have bV : Below w2.heap.size w2 V2 := by rw [hV2]; exact setRow_below bA _ _ (Nat.le_refl _)
  have pV2 : Arr V2 w2.heap.size 57 (I64 L2) := by rw [hV2]; exact q2.row _
  have pV1 := pW.kept bV
  replace EE := EE.go bV
  have HV2 : Hid _ := hV2
  obtain ⟨E2, hE2⟩ : ∃ E, E = w2.heap.size := ⟨_, rfl⟩
  have HE2 : Hid _ := hE2
  clear bA bV pW hE2
  cases hpq : (p && q) with
  | false =>
    have hcr : V2.cell? ⟨w.heap.size + 1 + 1, 0, none⟩ = some (.slice none 0 0) := EE.pr.cell 0
    have hfr := EE.pr.frozen 0
    have HA : Hid _ := EE.pr.set 0 (.slice none 0 0)
    have HB : Hid _ := EE.fr.setCell (p := ⟨w.heap.size + 1 + 1, 0, none⟩) (by show w.heap.size ≤ w.heap.size + 1 + 1; omega) (.slice none 0 0)
    rw [hV2] at hcr hfr HA HB
    clear EE pV2 pV1 HJ' hV2 HV2
    cases p with
    | false =>
      go_wp2_with (refine wpList_store_row rfl 57 _ _ rfl w2.heap.size (I64 L2).toArray rfl rfl 57 _ q2 hi2 (by simp [l2]) (by simp [Value.oneCell']) ?_)
      exact bodyPost_ret (results_row_tmp (v := .bool false) (cs := [.slice none 0 0]) rfl rfl rfl HA.out Tryd.underlying25 rfl infoFe) rfl ⟨_, rfl, feT_nil _ _ _, HB.out⟩
    | true =>
      obtain rfl : q = false := hpq
      go_wp2_with (refine wpList_store_row rfl 57 _ _ rfl w2.heap.size (I64 L2).toArray rfl rfl 57 _ q2 hi2 (by simp [l2]) (by simp [Value.oneCell']) ?_)
      exact bodyPost_ret (results_row_tmp (v := .bool false) (cs := [.slice none 0 0]) rfl rfl rfl HA.out Tryd.underlying25 rfl infoFe) rfl ⟨_, rfl, feT_nil _ _ _, HB.out⟩
  | true =>
    obtain ⟨rfl, rfl⟩ : p = true ∧ q = true := by simpa using hpq
    have HJ2 : Hid (∀ Z, Below w.heap.size w Z → Calls Tryd.prog 54 #[.agg (I64 L1).toArray, .agg (I64 L2).toArray] Z fun e w' => e = .returned (.agg (I64 R).toArray) ∧ Below Z.heap.size Z w') := HJ'.out rfl rfl
    have d1 := hV2 ▸ pV1
    have d2 := hV2 ▸ pV2
    clear HJ' hV2 hpq
    go_wp2_with (first
      | (refine wpList_store_row rfl 57 _ _ rfl w2.heap.size (I64 L2).toArray rfl rfl 57 _ q2 hi2 (by simp [l2]) (by simp [Value.oneCell']) ?_)
      | (refine wpList_load_row rfl 57 _ rfl E1 rfl 57 (I64 L1).toArray (0, 0) _ d1 Tryd.underlying57 rfl hi1 ?_)
      | (refine wpList_load_row rfl 57 _ rfl w2.heap.size rfl 57 (I64 L2).toArray (0, 0) _ d2 Tryd.underlying57 rfl hi2 ?_))
    rw [← HV2.out]
    clear q2 d1 d2 HV2
    refine (HJ2.out _ EE.fr).mono ?_
    rintro e w3 ⟨rfl, hb3⟩
    replace EE := EE.go hb3
    clear hb3 HJ2 pV1 pV2 HE2
    go_wp2_with fail
    refine (implList R _ hRl).mono ?_
    rintro e w4 ⟨a', c', rfl, ho, hb4⟩
    have hlt := EE.pr.lt
    have hsz := EE.fr.size
    replace EE := EE.go hb4
    have HOW : Hid _ := own_base (own_other' ho ⟨w.heap.size + 1 + 1, 0, none⟩ (.slice a' 16 c') hlt) hsz
    have hcr : w4.cell? ⟨w.heap.size + 1 + 1, 0, none⟩ = some (.slice none 0 0) := EE.pr.cell 0
    have hfr := EE.pr.frozen 0
    have HA : Hid _ := EE.pr.set 0 (.slice a' 16 c')
    have HB : Hid _ := EE.fr.setCell (p := ⟨w.heap.size + 1 + 1, 0, none⟩) (by show w.heap.size ≤ w.heap.size + 1 + 1; omega) (.slice a' 16 c')
    clear EE ho hb4 hsz hlt
    go_wp2
    exact bodyPost_ret (results_row_tmp (v := .bool true) (cs := [.slice a' 16 c']) rfl rfl rfl HA.out Tryd.underlying25 rfl infoFe) rfl ⟨_, rfl, feT_16 hRl HOW.out, HB.out⟩


set_option maxHeartbeats 1000000 in
theorem implFeAdd (a : Option Addr) (n c : Nat) (xs : List Int) (b : Option Addr) (m d : Nat) (ys : List Int) (w : World) (hx : Is w a n c xs) (hy : Is w b m d ys) (hV : Vr w 0 (I64 PL)) :
    Calls Tryd.prog 16 #[.agg #[.slice a n c], .agg #[.slice b m d]] w fun e w' => ∃ v, e = .returned (.tuple #[v, .bool (feOk xs && feOk ys)]) ∧ FeT 57 w w' v (fe2 (· + ·) xs ys) ∧ Below w.heap.size w w' := by
  have EE : F3 w _ (.slice a n c) (.slice b m d) := F3.new w (.slice a n c) (.slice b m d)
  obtain ⟨W, hW⟩ : ∃ W, W = ((w.alloc (.cells #[.slice a n c] 25)).alloc (.cells #[.slice b m d] 25)).alloc (.cells #[.slice none 0 0] 25) := ⟨_, rfl⟩
  rw [← hW] at EE
  have HJ : Hid (Calls Tryd.prog 51 #[.agg #[.slice a n c], .agg #[.slice b m d], .func (.func 52) #[] #[]] W fun e w' => ∃ v, e = .returned (.tuple #[v, .bool (feOk xs && feOk ys)]) ∧ FeT 57 W w' v (fe2 (· + ·) xs ys) ∧ Below W.heap.size W w') :=
    implJoinSum a n c xs b m d ys (red (val xs + val ys)) W (hx.below EE.fr) (hy.below EE.fr) (hV.kept EE.fr) (red_len _) (fun h1 h2 Z hZ => implSum xs ys Z h1 h2 hZ)
  generalize fe2 (· + ·) xs ys = L at HJ ⊢
  generalize (feOk xs && feOk ys) = r at HJ ⊢
  clear hx hy hV
  go_enter Tryd.func16, Tryd.ntmps16
  go_wp2_with fail
  rw [← hW]
  clear hW
  refine HJ.out.mono ?_
  rintro e w1 ⟨v, rfl, ⟨a', c', rfl, ho⟩, hb1⟩
  have hlt := EE.pr.lt
  have hsz := EE.fr.size
  replace EE := EE.go hb1
  have HOW : Hid _ := own_base (own_other' ho ⟨w.heap.size + 1 + 1, 0, none⟩ (.slice a' L.length c') hlt) hsz
  have hcr : w1.cell? ⟨w.heap.size + 1 + 1, 0, none⟩ = some (.slice none 0 0) := EE.pr.cell 0
  have hfr := EE.pr.frozen 0
  have HA : Hid _ := EE.pr.set 0 (.slice a' L.length c')
  have HB : Hid _ := EE.fr.setCell (p := ⟨w.heap.size + 1 + 1, 0, none⟩) (by show w.heap.size ≤ w.heap.size + 1 + 1; omega) (.slice a' L.length c')
  clear EE ho hb1 hsz hlt HJ
  obtain ⟨N, hN⟩ : ∃ N, N = L.length := ⟨_, rfl⟩
  rw [← hN] at HOW HA HB ⊢
  have HN : Hid _ := hN
  clear hN
  go_wp2
  exact bodyPost_ret (results_row_tmp (v := .bool r) (cs := [.slice a' N c']) rfl rfl rfl HA.out Tryd.underlying25 rfl infoFe) rfl ⟨_, rfl, ⟨a', c', by rw [HN.out], by rw [← HN.out]; exact HOW.out⟩, HB.out⟩

set_option maxHeartbeats 1000000 in
theorem implFeSub (a : Option Addr) (n c : Nat) (xs : List Int) (b : Option Addr) (m d : Nat) (ys : List Int) (w : World) (hx : Is w a n c xs) (hy : Is w b m d ys) (hV : Vr w 0 (I64 PL)) :
    Calls Tryd.prog 20 #[.agg #[.slice a n c], .agg #[.slice b m d]] w fun e w' => ∃ v, e = .returned (.tuple #[v, .bool (feOk xs && feOk ys)]) ∧ FeT 57 w w' v (fe2 (· - ·) xs ys) ∧ Below w.heap.size w w' := by
  have EE : F3 w _ (.slice a n c) (.slice b m d) := F3.new w (.slice a n c) (.slice b m d)
  obtain ⟨W, hW⟩ : ∃ W, W = ((w.alloc (.cells #[.slice a n c] 25)).alloc (.cells #[.slice b m d] 25)).alloc (.cells #[.slice none 0 0] 25) := ⟨_, rfl⟩
  rw [← hW] at EE
  have HJ : Hid (Calls Tryd.prog 51 #[.agg #[.slice a n c], .agg #[.slice b m d], .func (.func 55) #[] #[]] W fun e w' => ∃ v, e = .returned (.tuple #[v, .bool (feOk xs && feOk ys)]) ∧ FeT 57 W w' v (fe2 (· - ·) xs ys) ∧ Below W.heap.size W w') :=
    implJoinDiff a n c xs b m d ys (red (val xs - val ys)) W (hx.below EE.fr) (hy.below EE.fr) (hV.kept EE.fr) (red_len _) (fun h1 h2 Z hZ => implDiff xs ys Z h1 h2 hZ)
  generalize fe2 (· - ·) xs ys = L at HJ ⊢
  generalize (feOk xs && feOk ys) = r at HJ ⊢
  clear hx hy hV
  go_enter Tryd.func20, Tryd.ntmps20
  go_wp2_with fail
  rw [← hW]
  clear hW
  refine HJ.out.mono ?_
  rintro e w1 ⟨v, rfl, ⟨a', c', rfl, ho⟩, hb1⟩
  have hlt := EE.pr.lt
  have hsz := EE.fr.size
  replace EE := EE.go hb1
  have HOW : Hid _ := own_base (own_other' ho ⟨w.heap.size + 1 + 1, 0, none⟩ (.slice a' L.length c') hlt) hsz
  have hcr : w1.cell? ⟨w.heap.size + 1 + 1, 0, none⟩ = some (.slice none 0 0) := EE.pr.cell 0
  have hfr := EE.pr.frozen 0
  have HA : Hid _ := EE.pr.set 0 (.slice a' L.length c')
  have HB : Hid _ := EE.fr.setCell (p := ⟨w.heap.size + 1 + 1, 0, none⟩) (by show w.heap.size ≤ w.heap.size + 1 + 1; omega) (.slice a' L.length c')
  clear EE ho hb1 hsz hlt HJ
  obtain ⟨N, hN⟩ : ∃ N, N = L.length := ⟨_, rfl⟩
  rw [← hN] at HOW HA HB ⊢
  have HN : Hid _ := hN
  clear hN
  go_wp2
  exact bodyPost_ret (results_row_tmp (v := .bool r) (cs := [.slice a' N c']) rfl rfl rfl HA.out Tryd.underlying25 rfl infoFe) rfl ⟨_, rfl, ⟨a', c', by rw [HN.out], by rw [← HN.out]; exact HOW.out⟩, HB.out⟩

set_option maxHeartbeats 1000000 in
theorem implFeMul (a : Option Addr) (n c : Nat) (xs : List Int) (b : Option Addr) (m d : Nat) (ys : List Int) (w : World) (hx : Is w a n c xs) (hy : Is w b m d ys) (hV : Vr w 0 (I64 PL)) :
    Calls Tryd.prog 19 #[.agg #[.slice a n c], .agg #[.slice b m d]] w fun e w' => ∃ v, e = .returned (.tuple #[v, .bool (feOk xs && feOk ys)]) ∧ FeT 57 w w' v (fe2 (· * ·) xs ys) ∧ Below w.heap.size w w' := by
  have EE : F3 w _ (.slice a n c) (.slice b m d) := F3.new w (.slice a n c) (.slice b m d)
  obtain ⟨W, hW⟩ : ∃ W, W = ((w.alloc (.cells #[.slice a n c] 25)).alloc (.cells #[.slice b m d] 25)).alloc (.cells #[.slice none 0 0] 25) := ⟨_, rfl⟩
  rw [← hW] at EE
  have HJ : Hid (Calls Tryd.prog 51 #[.agg #[.slice a n c], .agg #[.slice b m d], .func (.func 54) #[] #[]] W fun e w' => ∃ v, e = .returned (.tuple #[v, .bool (feOk xs && feOk ys)]) ∧ FeT 57 W w' v (fe2 (· * ·) xs ys) ∧ Below W.heap.size W w') :=
    implJoinProd a n c xs b m d ys (red (val xs * val ys)) W (hx.below EE.fr) (hy.below EE.fr) (hV.kept EE.fr) (red_len _) (fun h1 h2 Z hZ => implProduct xs ys Z ((feOk_iff xs).1 h1).1 ((feOk_iff ys).1 h2).1 ((feOk_iff xs).1 h1).2.1 ((feOk_iff ys).1 h2).2.1 hZ)
  generalize fe2 (· * ·) xs ys = L at HJ ⊢
  generalize (feOk xs && feOk ys) = r at HJ ⊢
  clear hx hy hV
  go_enter Tryd.func19, Tryd.ntmps19
  go_wp2_with fail
  rw [← hW]
  clear hW
  refine HJ.out.mono ?_
  rintro e w1 ⟨v, rfl, ⟨a', c', rfl, ho⟩, hb1⟩
  have hlt := EE.pr.lt
  have hsz := EE.fr.size
  replace EE := EE.go hb1
  have HOW : Hid _ := own_base (own_other' ho ⟨w.heap.size + 1 + 1, 0, none⟩ (.slice a' L.length c') hlt) hsz
  have hcr : w1.cell? ⟨w.heap.size + 1 + 1, 0, none⟩ = some (.slice none 0 0) := EE.pr.cell 0
  have hfr := EE.pr.frozen 0
  have HA : Hid _ := EE.pr.set 0 (.slice a' L.length c')
  have HB : Hid _ := EE.fr.setCell (p := ⟨w.heap.size + 1 + 1, 0, none⟩) (by show w.heap.size ≤ w.heap.size + 1 + 1; omega) (.slice a' L.length c')
  clear EE ho hb1 hsz hlt HJ
  obtain ⟨N, hN⟩ : ∃ N, N = L.length := ⟨_, rfl⟩
  rw [← hN] at HOW HA HB ⊢
  have HN : Hid _ := hN
  clear hN
  go_wp2
  exact bodyPost_ret (results_row_tmp (v := .bool r) (cs := [.slice a' N c']) rfl rfl rfl HA.out Tryd.underlying25 rfl infoFe) rfl ⟨_, rfl, ⟨a', c', by rw [HN.out], by rw [← HN.out]; exact HOW.out⟩, HB.out⟩
end Go.Proofs.YtpchdfdeomhakaaDoor

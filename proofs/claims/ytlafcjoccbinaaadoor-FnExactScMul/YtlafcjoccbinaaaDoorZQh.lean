/-
  What is proved here: the contracts of the program's ScOk, ScBytes and ScRead; where the program's variable holds the order.
-/
import Derived.Test.YtlafcjoccbinaaaDoorZY
import Derived.Test.YtlafcjoccbinaaaDoorZJrd
import Derived.Test.YtlafcjoccbinaaaDoorZL
import Derived.Test.YtlafcjoccbinaaaDoorZU
namespace Go.Proofs.YtlafcjoccbinaaaDoor
open Go.RowKit
set_option maxRecDepth 100000

/-- A multiplier is laid into a new cell. -/
theorem laid_mu (w1 : World) (L : List Int) : Below w1.heap.size w1 ((w1.alloc (.cells #[.int .i64 0, .int .i64 0, .int .i64 0, .int .i64 0, .int .i64 0, .int .i64 0, .int .i64 0, .int .i64 0, .int .i64 0, .int .i64 0, .int .i64 0, .int .i64 0, .int .i64 0, .int .i64 0, .int .i64 0, .int .i64 0] 51)).setRow w1.heap.size (I64 L).toArray) ∧ Arr ((w1.alloc (.cells #[.int .i64 0, .int .i64 0, .int .i64 0, .int .i64 0, .int .i64 0, .int .i64 0, .int .i64 0, .int .i64 0, .int .i64 0, .int .i64 0, .int .i64 0, .int .i64 0, .int .i64 0, .int .i64 0, .int .i64 0, .int .i64 0] 51)).setRow w1.heap.size (I64 L).toArray) w1.heap.size 51 (I64 L) ∧ Arr (w1.alloc (.cells #[.int .i64 0, .int .i64 0, .int .i64 0, .int .i64 0, .int .i64 0, .int .i64 0, .int .i64 0, .int .i64 0, .int .i64 0, .int .i64 0, .int .i64 0, .int .i64 0, .int .i64 0, .int .i64 0, .int .i64 0, .int .i64 0] 51)) w1.heap.size 51 (I64 Z16) := by
  have q : Arr (w1.alloc (.cells #[.int .i64 0, .int .i64 0, .int .i64 0, .int .i64 0, .int .i64 0, .int .i64 0, .int .i64 0, .int .i64 0, .int .i64 0, .int .i64 0, .int .i64 0, .int .i64 0, .int .i64 0, .int .i64 0, .int .i64 0, .int .i64 0] 51)) w1.heap.size 51 (I64 Z16) := Arr.new w1 (I64 Z16) _
  exact ⟨setRow_below ((Below.refl _ _).alloc (Nat.le_refl _) _) _ _ (Nat.le_refl _), q.row _, q⟩

set_option maxHeartbeats 1000000 in
theorem implScOk (a : Option Addr) (n c : Nat) (xs : List Int) (w : World) (hx : Is w a n c xs) (hV : Vr w 0 (I64 OL)) :
    Calls Tryd.prog 18 #[.agg #[.slice a n c]] w fun e w' => e = .returned (.bool (scOk xs)) ∧ Below w.heap.size w w' := by
  obtain ⟨W, hW⟩ : ∃ W, W = w.alloc (.cells #[.slice a n c] 25) := ⟨_, rfl⟩
  have gB : Below w.heap.size w W := by rw [hW]; exact (Below.refl _ _).alloc (Nat.le_refl _) _
  have HO := implLimbsOf a n c xs W (hx.below gB)
  have HM : Hid (∀ Z, Vr Z 0 (I64 OL) → Calls Tryd.prog 42 #[.agg (I64 (lmL xs)).toArray, .bool (lmOk xs)] Z fun e w' => e = .returned (.tuple #[.agg (I64 (scL xs)).toArray, .bool (scOk xs)]) ∧ Below Z.heap.size Z w') := by
    unfold Hid; intro Z hZ; exact implMuSc xs Z hZ
  have hSl := scL_len xs
  have gV := hV.kept gB
  obtain ⟨L, hL⟩ : ∃ L, L = lmL xs := ⟨_, rfl⟩
  obtain ⟨p, hp⟩ : ∃ p, p = lmOk xs := ⟨_, rfl⟩
  obtain ⟨S, hS⟩ : ∃ S, S = scL xs := ⟨_, rfl⟩
  rw [← hL, ← hp] at HO HM
  rw [← hS] at HM hSl
  have HO' : Hid (Calls Tryd.prog 46 #[.slice a n c] W fun e w' => e = .returned (.tuple #[.agg (I64 L).toArray, .bool p]) ∧ Below W.heap.size W w') := HO
  have his : (Tryd.prog.info? 51).map (·.size) = some (I64 S).toArray.size := by simpa [hSl] using infoM
  clear HO hL hp hS hx hV
  go_enter Tryd.func18, Tryd.ntmps18
  go_wp2_with fail
  rw [← hW]
  refine HO'.out.mono ?_
  rintro e w1 ⟨rfl, hb1⟩
  have gB1 := gB.trans (hb1.mono gB.size)
  have gV1 := gV.kept hb1
  clear hW gB gV hb1 HO'
  go_wp2_with fail
  refine (HM.out _ gV1).mono ?_
  rintro e w2 ⟨rfl, hb2⟩
  have gB2 := gB1.trans (hb2.mono gB1.size)
  obtain ⟨bV, _, q1⟩ := laid_mu w2 S
  have HB : Hid _ := gB2.trans (bV.mono gB2.size)
  clear gB1 gV1 hb2 gB2 bV HM
  go_wp2_with (refine wpList_store_row rfl 51 _ _ rfl w2.heap.size (I64 S).toArray rfl rfl 51 _ q1 his (by simp [hSl]) (by simp [Value.oneCell']) ?_)
  go_ret
  exact ⟨rfl, HB.out⟩

set_option maxHeartbeats 1000000 in
theorem implScBytes (a : Option Addr) (n c : Nat) (xs : List Int) (w : World) (hx : Is w a n c xs) (hV : Vr w 0 (I64 OL)) :
    Calls Tryd.prog 16 #[.agg #[.slice a n c]] w fun e w' => ∃ v, e = .returned v ∧ w'.ownsRow w.heap.size 5 1 v (btFO xs).length (U8 (btFO xs)) ∧ Below w.heap.size w w' := by
  obtain ⟨W, hW⟩ : ∃ W, W = w.alloc (.cells #[.slice a n c] 25) := ⟨_, rfl⟩
  have gB : Below w.heap.size w W := by rw [hW]; exact (Below.refl _ _).alloc (Nat.le_refl _) _
  have HO := implLimbsOf a n c xs W (hx.below gB)
  have HM : Hid (∀ Z, Vr Z 0 (I64 OL) → Calls Tryd.prog 42 #[.agg (I64 (lmL xs)).toArray, .bool (lmOk xs)] Z fun e w' => e = .returned (.tuple #[.agg (I64 (scL xs)).toArray, .bool (scOk xs)]) ∧ Below Z.heap.size Z w') := by
    unfold Hid; intro Z hZ; exact implMuSc xs Z hZ
  have hSl := scL_len xs
  have gV := hV.kept gB
  obtain ⟨o, ho⟩ : ∃ o, o = scOk xs := ⟨_, rfl⟩
  obtain ⟨T, hT⟩ : ∃ T, T = btFO xs := ⟨_, rfl⟩
  have HT0 : Hid (o = false → T = []) := by unfold Hid; intro h; rw [hT]; unfold btFO; rw [← ho, h]; rfl
  have HT1 : Hid (o = true → ∀ Z : World, Calls Tryd.prog 47 #[.agg (I64 (scL xs)).toArray] Z fun e w' => ∃ v, e = .returned v ∧ w'.ownsRow Z.heap.size 5 1 v T.length (U8 T) ∧ Below Z.heap.size Z w') := by
    unfold Hid; intro h Z
    have h' : scOk xs = true := by rw [← ho]; exact h
    have e1 : scL xs = xs := by unfold scL; rw [if_pos h']
    obtain ⟨h2, h3, _⟩ := (scOk_iff xs).1 h'
    have e2 : T = btL xs := by rw [hT]; unfold btFO; rw [if_pos h']
    rw [e1, e2, show (btL xs).length = 32 by rw [btL_len, h2]]
    refine (implBytes xs Z h2 h3).mono ?_
    exact fun e w' h => h
  obtain ⟨L, hL⟩ : ∃ L, L = lmL xs := ⟨_, rfl⟩
  obtain ⟨p, hp⟩ : ∃ p, p = lmOk xs := ⟨_, rfl⟩
  obtain ⟨S, hS⟩ : ∃ S, S = scL xs := ⟨_, rfl⟩
  rw [← hL, ← hp] at HO HM
  rw [← hS] at HM hSl HT1
  rw [← ho] at HM
  rw [← hT]
  have HO' : Hid (Calls Tryd.prog 46 #[.slice a n c] W fun e w' => e = .returned (.tuple #[.agg (I64 L).toArray, .bool p]) ∧ Below W.heap.size W w') := HO
  have his : (Tryd.prog.info? 51).map (·.size) = some (I64 S).toArray.size := by simpa [hSl] using infoM
  have hisl : (Tryd.prog.info? 49).map (·.size) = some (I64 S).toArray.size := by simpa [hSl] using infoL
  clear HO hL hp hS hx hV ho hT
  go_enter Tryd.func16, Tryd.ntmps16
  go_wp2_with fail
  rw [← hW]
  refine HO'.out.mono ?_
  rintro e w1 ⟨rfl, hb1⟩
  have gB1 := gB.trans (hb1.mono gB.size)
  have gV1 := gV.kept hb1
  clear hW gB gV hb1 HO'
  go_wp2_with fail
  refine (HM.out _ gV1).mono ?_
  rintro e w2 ⟨rfl, hb2⟩
  have gB2 := gB1.trans (hb2.mono gB1.size)
  obtain ⟨bV, pV, q1⟩ := laid_mu w2 S
  have gB3 := gB2.trans (bV.mono gB2.size)
  clear gB1 gV1 hb2 gB2 bV HM
  cases o with
  | false =>
    have HE : Hid (T = []) := HT0.out rfl
    have HB : Hid _ := gB3
    clear HT0 HT1 gB3 pV
    go_wp2_with (refine wpList_store_row rfl 51 _ _ rfl w2.heap.size (I64 S).toArray rfl rfl 51 _ q1 his (by simp [hSl]) (by simp [Value.oneCell']) ?_)
    go_ret
    exact ⟨_, rfl, HE.out ▸ World.ownsRow_nil _ _ _ _, HB.out⟩
  | true =>
    have HY : Hid (∀ Z : World, Calls Tryd.prog 47 #[.agg (I64 S).toArray] Z fun e w' => ∃ v, e = .returned v ∧ w'.ownsRow Z.heap.size 5 1 v T.length (U8 T) ∧ Below Z.heap.size Z w') := HT1.out rfl
    clear HT0 HT1
    go_wp2_with (first
      | (refine wpList_store_row rfl 51 _ _ rfl w2.heap.size (I64 S).toArray rfl rfl 51 _ q1 his (by simp [hSl]) (by simp [Value.oneCell']) ?_)
      | (refine wpList_load_row rfl 49 _ rfl w2.heap.size rfl 51 (I64 S).toArray (0, 0) _ pV Tryd.underlying49 rfl hisl ?_))
    refine (HY.out _).mono ?_
    rintro e w3 ⟨v, rfl, ho3, hb3⟩
    have HOW : Hid _ := own_base ho3 gB3.size
    have HB : Hid _ := gB3.trans (hb3.mono gB3.size)
    clear gB3 pV q1 ho3 hb3 HY
    go_wp2
    go_ret
    exact ⟨_, rfl, HOW.out, HB.out⟩

theorem rdZ_lm {bs : List Int} (hb : ∀ x ∈ bs, 0 ≤ x ∧ x < 256) : Lm (rdZ bs) := by
  unfold rdZ
  split
  · exact rdL_lm hb
  · intro x hx
    have : x = 0 := by simpa using hx
    omega
theorem muB_rd (bs : List Int) : muB (rdZ bs) (rdB bs) = rdOkO bs := by
  unfold muB rdOkO rdB
  by_cases h : bs.length = 32
  · have e : rdZ bs = rdL bs := by unfold rdZ rdB; rw [if_pos (by simp [h])]
    rw [e]
  · simp [h]
theorem muL_rd {bs : List Int} (h : rdOkO bs = true) : muL (rdZ bs) (rdB bs) = rdFO bs := by
  unfold muL rdFO
  rw [muB_rd, if_pos h, if_pos h]
  have h2 : rdB bs = true := by unfold rdOkO at h; simp at h; unfold rdB; simp [h.1]
  unfold rdZ
  rw [if_pos h2]

/-- The result's cell of a function that answers a multiplier. -/
structure S1r (w W : World) : Prop where
  fr : Below w.heap.size w W
  pr : Arr W w.heap.size 25 [.slice none 0 0]
theorem S1r.go {w A B : World} (h : S1r w A) (hb : Below A.heap.size A B) : S1r w B := ⟨h.fr.trans (hb.mono h.fr.size), h.pr.kept hb⟩

set_option maxHeartbeats 2000000 in
theorem implScRead (a : Option Addr) (n c : Nat) (bs : List Int) (w : World) (hx : Bs w a n c bs) (hV : Vr w 0 (I64 OL)) :
    Calls Tryd.prog 13 #[.slice a n c] w fun e w' => ∃ v, e = .returned (.tuple #[v, .bool (rdOkO bs)]) ∧ FeT 49 w w' v (rdFO bs) ∧ Below w.heap.size w w' := by
  obtain ⟨W, hW⟩ : ∃ W, W = w.alloc (.cells #[.slice none 0 0] 25) := ⟨_, rfl⟩
  have EE : S1r w W := by rw [hW]; exact ⟨(Below.refl _ _).alloc (Nat.le_refl _) _, Arr.new _ _ _⟩
  have HO := implLimbsRead a n c bs W (hx.below EE.fr)
  have gV := hV.kept EE.fr
  have hby := hx.2.2.2.1
  have HM : Hid (∀ Z, Vr Z 0 (I64 OL) → Calls Tryd.prog 42 #[.agg (I64 (rdZ bs)).toArray, .bool (rdB bs)] Z fun e w' => e = .returned (.tuple #[.agg (I64 (muL (rdZ bs) (rdB bs))).toArray, .bool (rdOkO bs)]) ∧ Below Z.heap.size Z w') := by
    unfold Hid; intro Z hZ
    have := implMuOf (rdZ bs) (rdB bs) Z (rdZ_len bs) (rdZ_lm hby) hZ
    rw [muB_rd] at this
    exact this
  have hSl : (muL (rdZ bs) (rdB bs)).length = 16 := muL_len (rdZ_len bs)
  obtain ⟨o, ho⟩ : ∃ o, o = rdOkO bs := ⟨_, rfl⟩
  obtain ⟨T, hT⟩ : ∃ T, T = rdFO bs := ⟨_, rfl⟩
  obtain ⟨L, hL⟩ : ∃ L, L = rdZ bs := ⟨_, rfl⟩
  obtain ⟨p, hp⟩ : ∃ p, p = rdB bs := ⟨_, rfl⟩
  obtain ⟨S, hS⟩ : ∃ S, S = muL (rdZ bs) (rdB bs) := ⟨_, rfl⟩
  have HT0 : Hid (o = false → T = []) := by unfold Hid; intro h; rw [hT]; unfold rdFO; rw [← ho, h]; rfl
  have HT1 : Hid (o = true → T = S) := by unfold Hid; intro h; rw [hT, hS]; exact (muL_rd (by rw [← ho]; exact h)).symm
  rw [← hS] at HM hSl
  rw [← hL, ← hp] at HO HM
  rw [← ho] at HM ⊢
  rw [← hT]
  have HO' : Hid (Calls Tryd.prog 43 #[.slice a n c] W fun e w' => e = .returned (.tuple #[.agg (I64 L).toArray, .bool p]) ∧ Below W.heap.size W w') := HO
  have his : (Tryd.prog.info? 51).map (·.size) = some (I64 S).toArray.size := by simpa [hSl] using infoM
  have hisl : (Tryd.prog.info? 49).map (·.size) = some (I64 S).toArray.size := by simpa [hSl] using infoL
  clear HO hL hp hS hx hV ho hT hby
  go_enter Tryd.func13, Tryd.ntmps13
  go_wp2_with fail
  rw [← hW]
  refine HO'.out.mono ?_
  rintro e w1 ⟨rfl, hb1⟩
  replace EE := EE.go hb1
  replace gV := gV.kept hb1
  clear hW hb1 HO'
  go_wp2_with fail
  refine (HM.out _ gV).mono ?_
  rintro e w2 ⟨rfl, hb2⟩
  replace EE := EE.go hb2
  obtain ⟨bV, pV, q1⟩ := laid_mu w2 S
  replace EE := EE.go bV
  clear gV hb2 bV HM
  cases o with
  | false =>
    have HE : Hid (T = []) := HT0.out rfl
    have hcr : ((w2.alloc (.cells #[.int .i64 0, .int .i64 0, .int .i64 0, .int .i64 0, .int .i64 0, .int .i64 0, .int .i64 0, .int .i64 0, .int .i64 0, .int .i64 0, .int .i64 0, .int .i64 0, .int .i64 0, .int .i64 0, .int .i64 0, .int .i64 0] 51)).setRow w2.heap.size (I64 S).toArray).cell? ⟨w.heap.size, 0, none⟩ = some (.slice none 0 0) := EE.pr.cell 0
    have hfr := EE.pr.frozen 0
    have HA : Hid _ := EE.pr.set 0 (.slice none 0 0)
    have HB : Hid _ := EE.fr.setCell (p := ⟨w.heap.size, 0, none⟩) (Nat.le_refl _) (.slice none 0 0)
    clear EE HT0 HT1 pV
    go_wp2_with (refine wpList_store_row rfl 51 _ _ rfl w2.heap.size (I64 S).toArray rfl rfl 51 _ q1 his (by simp [hSl]) (by simp [Value.oneCell']) ?_)
    exact bodyPost_ret (results_row_tmp (v := .bool false) (cs := [.slice none 0 0]) rfl rfl rfl HA.out Tryd.underlying25 rfl infoSc) rfl ⟨_, rfl, HE.out ▸ feT_nil _ _ _, HB.out⟩
  | true =>
    have HE : Hid (T = S) := HT1.out rfl
    clear HT0 HT1
    go_wp2_with (first
      | (refine wpList_store_row rfl 51 _ _ rfl w2.heap.size (I64 S).toArray rfl rfl 51 _ q1 his (by simp [hSl]) (by simp [Value.oneCell']) ?_)
      | (refine wpList_load_row rfl 49 _ rfl w2.heap.size rfl 51 (I64 S).toArray (0, 0) _ pV Tryd.underlying49 rfl hisl ?_))
    obtain ⟨V, hVV⟩ : ∃ V, V = (w2.alloc (.cells #[.int .i64 0, .int .i64 0, .int .i64 0, .int .i64 0, .int .i64 0, .int .i64 0, .int .i64 0, .int .i64 0, .int .i64 0, .int .i64 0, .int .i64 0, .int .i64 0, .int .i64 0, .int .i64 0, .int .i64 0, .int .i64 0] 51)).setRow w2.heap.size (I64 S).toArray := ⟨_, rfl⟩
    rw [← hVV] at EE ⊢
    clear hVV pV q1
    refine (implList S _ hSl).mono ?_
    rintro e w4 ⟨a', c', rfl, ho, hb4⟩
    have hlt := EE.pr.lt
    have hsz := EE.fr.size
    replace EE := EE.go hb4
    have HOW : Hid _ := own_base (own_other' ho ⟨w.heap.size, 0, none⟩ (.slice a' 16 c') hlt) hsz
    have hcr : w4.cell? ⟨w.heap.size, 0, none⟩ = some (.slice none 0 0) := EE.pr.cell 0
    have hfr := EE.pr.frozen 0
    have HA : Hid _ := EE.pr.set 0 (.slice a' 16 c')
    have HB : Hid _ := EE.fr.setCell (p := ⟨w.heap.size, 0, none⟩) (Nat.le_refl _) (.slice a' 16 c')
    clear EE ho hb4 hsz hlt
    go_wp2
    exact bodyPost_ret (results_row_tmp (v := .bool true) (cs := [.slice a' 16 c']) rfl rfl rfl HA.out Tryd.underlying25 rfl infoSc) rfl ⟨_, rfl, HE.out ▸ feT_16 hSl HOW.out, HB.out⟩
end Go.Proofs.YtlafcjoccbinaaaDoor

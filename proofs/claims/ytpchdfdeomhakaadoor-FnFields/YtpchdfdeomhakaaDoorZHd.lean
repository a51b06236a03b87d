/-
  What is proved here: the contract of the specification's FeRoot.
-/
import Derived.Test.YtpchdfdeomhakaaDoorZHc
namespace Go.Proofs.YtpchdfdeomhakaaDoor
open Go.RowKit
set_option maxRecDepth 100000

theorem rt3_ok (a : List Int) : (rt3 a).length = 16 ∧ Lm (rt3 a) := by
  unfold rt3
  split
  · rw [tk16_lim PL_len (rt2_len a)]; exact ⟨lim_len _ _, lim_lm _ _⟩
  · exact ⟨rt2_len a, rt2_lm a⟩
theorem rtR_len (a : List Int) : (rtR a).length = 16 := by
  unfold rtR
  split
  · exact (rt3_ok a).1
  · rfl
/-- Whether there is a root, and which. -/
def rootOk (xs : List Int) : Bool := feOk xs && rtOk xs
def rootL (xs : List Int) : List Int := if rootOk xs = true then rt3 xs else []

set_option maxHeartbeats 2000000 in
theorem specFeRoot (a : Option Addr) (n c : Nat) (xs : List Int) (w : World) (hx : Is w a n c xs) :
    Calls Tryd.prog 42 #[.agg #[.slice a n c]] w fun e w' => ∃ v, e = .returned (.tuple #[v, .bool (rootOk xs)]) ∧ FeIs w w' v (rootL xs) ∧ Below w.heap.size w w' := by
  obtain ⟨L, hL⟩ : ∃ L, L = rootL xs := ⟨_, rfl⟩
  obtain ⟨o, ho⟩ : ∃ o, o = rootOk xs := ⟨_, rfl⟩
  rw [← hL, ← ho]
  have HO : Hid _ := ho
  have HLL : Hid (L = if o = true then rt3 xs else []) := by unfold Hid; rw [hL, ho]; rfl
  clear hL ho
  have EE : F2 w _ (.slice a n c) := F2.new w (.slice a n c)
  obtain ⟨W, hW⟩ : ∃ W, W = (w.alloc (.cells #[.slice a n c] 25)).alloc (.cells #[.slice none 0 0] 25) := ⟨_, rfl⟩
  rw [← hW] at EE
  obtain ⟨p, hp⟩ : ∃ p, p = feOk xs := ⟨_, rfl⟩
  have HP : Hid _ := hp
  clear hp
  go_enter Tryd.func42, Tryd.ntmps42
  go_wp2_with fail
  rw [← hW]
  clear hW
  refine (specFeOk a n c xs _ (hx.below EE.fr)).mono ?_
  rintro e w1 ⟨rfl, hb1⟩
  replace EE := EE.go hb1
  clear hb1
  rw [← HP.out]
  cases p with
  | false =>
    have hca : w1.cell? ⟨w.heap.size, 0, none⟩ = some (.slice a n c) := EE.pa.cell 0
    have hcr : w1.cell? ⟨w.heap.size + 1, 0, none⟩ = some (.slice none 0 0) := EE.pr.cell 0
    have hfr := EE.pr.frozen 0
    have HA : Hid _ := EE.pr.set 0 (.slice none 0 0)
    have HB : Hid _ := EE.fr.setCell (p := ⟨w.heap.size + 1, 0, none⟩) (by show w.heap.size ≤ w.heap.size + 1; omega) (.slice none 0 0)
    have HE : Hid (o = false ∧ L = []) := by
      have h1 : o = false := by rw [HO.out]; unfold rootOk; rw [← HP.out]; rfl
      exact ⟨h1, by rw [HLL.out, h1]; rfl⟩
    clear EE HP HO HLL
    go_wp2
    exact bodyPost_ret (results_row_tmp (v := .bool false) (cs := [.slice none 0 0]) rfl rfl rfl HA.out Tryd.underlying25 rfl infoFe) rfl ⟨_, by rw [HE.out.1], HE.out.2 ▸ feIs_nil _ _, HB.out⟩
  | true =>
    obtain ⟨xl, xm, xv⟩ := (feOk_iff xs).1 HP.out.symm
    obtain rfl : n = 16 := by have := hx.2.1; omega
    have hca : w1.cell? ⟨w.heap.size, 0, none⟩ = some (.slice a 16 c) := EE.pa.cell 0
    go_wp2_with fail
    refine (specIn a c xs _ (hx.below EE.fr)).mono ?_
    rintro e w2 ⟨rfl, hb2⟩
    replace EE := EE.go hb2
    clear hb2 hca
    go_wp2_with fail
    refine (specRoot16 xs _ xl xm).mono ?_
    rintro e w3 ⟨rfl, hb3⟩
    replace EE := EE.go hb3
    clear hb3
    have hol : o = rtOk xs := by rw [HO.out]; unfold rootOk; rw [← HP.out]; rfl
    obtain ⟨R, hR⟩ : ∃ R, R = rtR xs := ⟨_, rfl⟩
    have hRl : R.length = 16 := by rw [hR]; exact rtR_len xs
    rw [← hol, ← hR]
    have HRX : Hid (R = if o = true then rt3 xs else Z16) := by unfold Hid; rw [hR, hol]; rfl
    clear hol hR HO HP
    have hsz := EE.fr.size
    have gE : Arr (w3.alloc (.cells #[.int .i64 0, .int .i64 0, .int .i64 0, .int .i64 0, .int .i64 0, .int .i64 0, .int .i64 0, .int .i64 0, .int .i64 0, .int .i64 0, .int .i64 0, .int .i64 0, .int .i64 0, .int .i64 0, .int .i64 0, .int .i64 0] 65)) w3.heap.size 65 (I64 Z16) := Arr.new _ _ _
    have EE1 : F2 w (w3.alloc (.cells #[.int .i64 0, .int .i64 0, .int .i64 0, .int .i64 0, .int .i64 0, .int .i64 0, .int .i64 0, .int .i64 0, .int .i64 0, .int .i64 0, .int .i64 0, .int .i64 0, .int .i64 0, .int .i64 0, .int .i64 0, .int .i64 0] 65)) (.slice a 16 c) := ⟨EE.fr.alloc hsz _, EE.pa.alloc _, EE.pr.alloc _⟩
    have hE1 := EE.pr.lt
    have gE2 := gE.row (I64 R)
    have EE2 : F2 w ((w3.alloc (.cells #[.int .i64 0, .int .i64 0, .int .i64 0, .int .i64 0, .int .i64 0, .int .i64 0, .int .i64 0, .int .i64 0, .int .i64 0, .int .i64 0, .int .i64 0, .int .i64 0, .int .i64 0, .int .i64 0, .int .i64 0, .int .i64 0] 65)).setRow w3.heap.size (I64 R).toArray) (.slice a 16 c) := ⟨setRow_below EE1.fr _ _ hsz, EE1.pa.rowOther _ _ (by have := EE.pa.lt; omega), EE1.pr.rowOther _ _ (by omega)⟩
    have hcr : ((w3.alloc (.cells #[.int .i64 0, .int .i64 0, .int .i64 0, .int .i64 0, .int .i64 0, .int .i64 0, .int .i64 0, .int .i64 0, .int .i64 0, .int .i64 0, .int .i64 0, .int .i64 0, .int .i64 0, .int .i64 0, .int .i64 0, .int .i64 0] 65)).setRow w3.heap.size (I64 R).toArray).cell? ⟨w.heap.size + 1, 0, none⟩ = some (.slice none 0 0) := EE2.pr.cell 0
    have hfr := EE2.pr.frozen 0
    cases o with
    | false =>
      have HA : Hid _ := EE2.pr.set 0 (.slice none 0 0)
      have HB : Hid _ := EE2.fr.setCell (p := ⟨w.heap.size + 1, 0, none⟩) (by show w.heap.size ≤ w.heap.size + 1; omega) (.slice none 0 0)
      have HE : Hid (L = []) := HLL.out
      clear EE EE1 EE2 HLL gE2 HRX
      go_wp2_with (refine wpList_store_row rfl 65 _ _ rfl w3.heap.size (I64 R).toArray rfl rfl 65 _ gE (by simpa [hRl] using infoE) (by simp [hRl]) (by simp [Value.oneCell']) ?_)
      exact bodyPost_ret (results_row_tmp (v := .bool false) (cs := [.slice none 0 0]) rfl rfl rfl HA.out Tryd.underlying25 rfl infoFe) rfl ⟨_, rfl, HE.out ▸ feIs_nil _ _, HB.out⟩
    | true =>
      have hLR : L = R := HLL.out.trans HRX.out.symm
      have hLm : Lm R := by rw [HRX.out]; exact (rt3_ok xs).2
      have HE : Hid _ := hLR
      clear HLL HRX hLR EE EE1 hcr hfr
      go_wp2_with (first
        | (refine wpList_store_row rfl 65 _ _ rfl w3.heap.size (I64 R).toArray rfl rfl 65 _ gE (by simpa [hRl] using infoE) (by simp [hRl]) (by simp [Value.oneCell']) ?_)
        | (refine wpList_load_row rfl 65 _ rfl w3.heap.size rfl 65 (I64 R).toArray (0, 0) _ gE2 Tryd.underlying65 rfl (by simpa [hRl] using infoE) ?_)
        | fail)
      refine (specOut R _ hRl hLm).mono ?_
      rintro e w6 ⟨a', c', rfl, ho, hb6⟩
      have hlt := EE2.pr.lt
      have hsz := EE2.fr.size
      have EE := EE2.go hb6
      have HOW : Hid _ := own_base (own_other' ho ⟨w.heap.size + 1, 0, none⟩ (.slice a' 16 c') hlt) hsz
      have hcr : w6.cell? ⟨w.heap.size + 1, 0, none⟩ = some (.slice none 0 0) := EE.pr.cell 0
      have hfr := EE.pr.frozen 0
      have HA : Hid _ := EE.pr.set 0 (.slice a' 16 c')
      have HB : Hid _ := EE.fr.setCell (p := ⟨w.heap.size + 1, 0, none⟩) (by show w.heap.size ≤ w.heap.size + 1; omega) (.slice a' 16 c')
      clear EE EE2 ho hb6 hsz hlt gE gE2
      go_wp2
      exact bodyPost_ret (results_row_tmp (v := .bool true) (cs := [.slice a' 16 c']) rfl rfl rfl HA.out Tryd.underlying25 rfl infoFe) rfl ⟨_, rfl, HE.out ▸ feIs_16 hRl HOW.out, HB.out⟩
end Go.Proofs.YtpchdfdeomhakaaDoor

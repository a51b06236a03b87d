/-
  What is proved here: the contract of the program's multiplierOfSum at two and at three slices; contracts of the specification's l7join and l7mod; the contract of the specification's l5add: the sum of two multipliers; the contract of the specification's l5mul: the product of two multipliers.
-/
import Derived.Test.YtihoaakbkffejaaGreatDoorFQk
import Derived.Test.YtihoaakbkffejaaGreatDoorFJrd
import Derived.Test.YtihoaakbkffejaaGreatDoorFKe
import Derived.Test.YtihoaakbkffejaaGreatDoorFYe
import Derived.Test.YtihoaakbkffejaaGreatDoorFOm0
import Derived.Laws.MakeOwn
import Derived.Test.YtihoaakbkffejaaGreatDoorFFm
namespace Go.Proofs.YtihoaakbkffejaaGreatDoor
open Go.RowKit
set_option maxRecDepth 100000

set_option maxHeartbeats 4000000 in
theorem msum_walk (g k : Nat) (T : List Int) (N : Nat) (w : World) (hl : T.length = N) (hb : ∀ x ∈ T, 0 ≤ x ∧ x < 256) (hn : N ≤ 20000) (hG : VarsOk w)
  (HC : Hid (∀ Z, Below w.heap.size w Z → Calls Tryz.prog 39 #[.slice (some ⟨g, 0, none⟩) k k] Z fun e w' => ∃ v, e = .returned v ∧ w'.ownsRow Z.heap.size 5 1 v N (U8 T) ∧ Below Z.heap.size Z w')) :
  Calls Tryz.prog 35 #[.slice (some ⟨g, 0, none⟩) k k] w fun e w' => ∃ a' c', e = .returned (.agg #[.slice a' 16 c']) ∧ w'.ownsRow w.heap.size 65 1 (.slice a' 16 c') 16 (I64 (mS T)) ∧ Below w.heap.size w w' := by
 have HH : Hid (∀ a c Z, Bs Z a N c T → Below w.heap.size w Z → Calls Tryz.prog 18 #[.slice a N c] Z fun e w' => ∃ a' c', e = .returned (.slice a' 64 c') ∧ Bs w' a' 64 c' (sumOfW T) ∧ Below Z.heap.size Z w') := by
  unfold Hid; intro a c Z h hZ
  refine (implSha512 a N c T Z h (hG.kept hZ).T (hG.kept hZ).F).mono ?_
  rintro e z ⟨v, rfl, ho, hb⟩
  have e1 : s512 T = sumOfW T := by unfold s512; rw [if_pos (by omega)]
  rw [e1, sumOfW_len] at ho
  obtain ⟨a', c', rfl, _, hB⟩ := Bs.own ho (sumOfW_byte _)
  exact ⟨a', c', rfl, hB, hb⟩
 have HW : Hid (∀ a c Z, Bs Z a 64 c (sumOfW T) → Below w.heap.size w Z → Calls Tryz.prog 17 #[.slice a 64 c] Z fun e w' => ∃ a' c', e = .returned (.tuple #[.agg #[.slice a' 16 c'], .bool true]) ∧ w'.ownsRow Z.heap.size 65 1 (.slice a' 16 c') 16 (I64 (mS T)) ∧ Below Z.heap.size Z w') := by
  unfold Hid; intro a c Z h hZ
  refine (implScWide a 64 c _ Z h (hG.kept hZ).O).mono ?_
  rintro e z ⟨v, rfl, ⟨a', c', rfl, oo⟩, hb⟩
  have e1 : wdOk (sumOfW T) = true := by unfold wdOk; exact decide_eq_true (sumOfW_len _)
  have e2 : wdF (sumOfW T) = mS T := by unfold wdF; rw [if_pos e1]; rfl
  have e3 : (mS T).length = 16 := redO_len _
  rw [e2, e3] at oo ⊢
  rw [e1]
  exact ⟨a', c', rfl, oo, hb⟩
 obtain ⟨M, hM⟩ : ∃ M, M = mS T := ⟨_, rfl⟩
 rw [← hM] at HW ⊢
 have HB : Hid _ := hb
 obtain ⟨W, hW⟩ : ∃ W, W = w.alloc (.cells #[.slice none 0 0] 41) := ⟨_, rfl⟩
 have pr : Arr W w.heap.size 41 [.slice none 0 0] := by rw [hW]; exact Arr.new _ _ _
 have fr : Below w.heap.size w W := by rw [hW]; exact (Below.refl _ _).alloc (Nat.le_refl _) _
 clear hM hG hb hl
 go_enter Tryz.func35, Tryz.ntmps35
 go_upto_region 1 with fail
 rw [← hW]
 clear hW
 go_wp2_with fail
 refine (HC.out _ fr).mono ?_
 rintro e y1 ⟨v, rfl, ho, hb1⟩
 obtain ⟨a1, c1, rfl, _, hB⟩ := Bs.own ho HB.out
 replace fr := fr.trans (hb1.mono fr.size)
 replace pr := pr.kept hb1
 clear hb1 ho
 go_wp2_with fail
 refine (HH.out _ _ _ hB fr).mono ?_
 rintro e y2 ⟨a2, c2, rfl, hB2, hb1⟩
 replace fr := fr.trans (hb1.mono fr.size)
 replace pr := pr.kept hb1
 clear hb1 hB
 have hl := pr.lt
 go_wp2_with fail
 refine (HW.out _ _ _ hB2 fr).mono ?_
 rintro e y3 ⟨a3, c3, rfl, oo, hb1⟩
 replace fr := fr.trans (hb1.mono fr.size)
 replace pr := pr.kept hb1
 have io := In.of oo
 clear hb1 hB2
 go_upto_region 2 with fail
 obtain ⟨Z, hZ⟩ : ∃ Z, Z = y3.alloc (.cells #[.slice a3 16 c3] 41) := ⟨_, rfl⟩
 have b6 : Below y3.heap.size y3 Z := by rw [hZ]; exact (Below.refl _ _).alloc (Nat.le_refl _) _
 have As : Arr Z y3.heap.size 41 [.slice a3 16 c3] := by rw [hZ]; exact Arr.new _ _ _
 rw [← hZ]
 clear hZ
 replace fr := fr.trans (b6.mono fr.size)
 replace pr := pr.kept b6
 replace oo := own_below oo b6
 have c0 : Z.cell? ⟨y3.heap.size, 0, none⟩ = some (.slice a3 16 c3) := As.cell 0
 have d0 : Z.cell? ⟨w.heap.size, 0, none⟩ = some (.slice none 0 0) := pr.cell 0
 have hf := pr.frozen 0
 have pr2 := pr.set 0 (.slice a3 16 c3)
 have fr2 := fr.setCell (p := ⟨w.heap.size, 0, none⟩) (Nat.le_refl _) (.slice a3 16 c3)
 have oo2 := own_other' oo ⟨w.heap.size, 0, none⟩ (.slice a3 16 c3) (by exact hl)
 clear b6 As
 go_wp2
 exact bodyPost_ret (results_cell_row rfl _ _ w.heap.size 41 #[.slice a3 16 c3] (0, 0) _ rfl pr2 Tryz.underlying41 rfl infoSc) rfl ⟨a3, c3, rfl, own_base oo2 (Nat.le_of_lt hl), fr2⟩

set_option maxHeartbeats 4000000 in
theorem implMSum3 (g : Nat) (a : Option Addr) (n1 c1 : Nat) (xs : List Int) (b : Option Addr) (n2 c2 : Nat) (ys : List Int) (d : Option Addr) (n3 c3 : Nat) (zs : List Int) (w : World) (hg : g < w.heap.size) (q0 : w.cell? ⟨g, 0, none⟩ = some (.slice a n1 c1)) (q1 : w.cell? ⟨g, 1, none⟩ = some (.slice b n2 c2)) (q2 : w.cell? ⟨g, 2, none⟩ = some (.slice d n3 c3)) (h0 : Bs w a n1 c1 xs) (h1 : Bs w b n2 c2 ys) (h2 : Bs w d n3 c3 zs) (hn : n1 + n2 + n3 ≤ 20000) (hG : VarsOk w) :
  Calls Tryz.prog 35 #[.slice (some ⟨g, 0, none⟩) 3 3] w fun e w' => ∃ a' c', e = .returned (.agg #[.slice a' 16 c']) ∧ w'.ownsRow w.heap.size 65 1 (.slice a' 16 c') 16 (I64 (mS (xs ++ ys ++ zs))) ∧ Below w.heap.size w w' := by
 have HC : Hid (∀ Z, Below w.heap.size w Z → Calls Tryz.prog 39 #[.slice (some ⟨g, 0, none⟩) 3 3] Z fun e w' => ∃ v, e = .returned v ∧ w'.ownsRow Z.heap.size 5 1 v (n1 + n2 + n3) (U8 (xs ++ ys ++ zs)) ∧ Below Z.heap.size Z w') := by
  unfold Hid; intro Z hZ; exact concat3 g a b d n1 c1 n2 c2 n3 c3 xs ys zs Z (Nat.lt_of_lt_of_le hg hZ.size) ((hZ.cell (p := ⟨g, 0, none⟩) hg).trans q0) ((hZ.cell (p := ⟨g, 1, none⟩) hg).trans q1) ((hZ.cell (p := ⟨g, 2, none⟩) hg).trans q2) (h0.below hZ) (h1.below hZ) (h2.below hZ) (by omega) (by omega) (by omega)
 have hb : ∀ x ∈ xs ++ ys ++ zs, 0 ≤ x ∧ x < 256 := (app_byte (app_byte h0.2.2.2.1 h1.2.2.2.1) h2.2.2.2.1)
 have hl : (xs ++ ys ++ zs).length = n1 + n2 + n3 := by simp only [List.length_append, h0.2.1, h1.2.1, h2.2.1]
 obtain ⟨T, hT⟩ : ∃ T, T = xs ++ ys ++ zs := ⟨_, rfl⟩
 obtain ⟨N, hN⟩ : ∃ N, N = n1 + n2 + n3 := ⟨_, rfl⟩
 rw [← hT, ← hN] at HC
 rw [← hT] at hb ⊢
 rw [← hT, ← hN] at hl
 rw [← hN] at hn
 exact msum_walk g 3 T N w hl hb hn hG HC
set_option maxHeartbeats 2000000 in
theorem specJoin (a1 a2 a3 : Option Addr) (n1 c1 n2 c2 n3 c3 : Nat) (xs ys zs : List Int) (w : World) (h1 : Bs w a1 n1 c1 xs) (h2 : Bs w a2 n2 c2 ys) (h3 : Bs w a3 n3 c3 zs) (hn : n1 + n2 + n3 ≤ 4194304) :
  Calls Tryz.prog 74 #[.slice a1 n1 c1, .slice a2 n2 c2, .slice a3 n3 c3] w fun e w' => ∃ v, e = .returned v ∧ w'.ownsRow w.heap.size 5 1 v (n1 + n2 + n3) (U8 (xs ++ ys ++ zs)) ∧ Below w.heap.size w w' := by
 have ow : (w.alloc (.cells #[] 5)).ownsRow w.heap.size 5 1 (.slice (some ⟨w.heap.size, 0, none⟩) 0 0) 0 (U8 []) := World.ownsRow_lit (base := w.heap.size) (e := 5) (size := 1) w #[] 0 (Nat.le_refl _) (by unfold maxLen; omega) rfl
 have bA : Below w.heap.size w (w.alloc (.cells #[] 5)) := (Below.refl _ _).alloc (Nat.le_refl _) _
 go_enter Tryz.func74, Tryz.ntmps74
 go_wp2_with (at_builtin; refine wpl_append_bs rfl _ _ rfl w.heap.size _ 0 [] rfl a1 n1 c1 xs rfl ow (h1.below bA) (by omega) (by simp) ?_)
 intro v1 w1 ow1 gr1 _
 have b1 : Below w.heap.size w w1 := below_app0 bA bA.size ow gr1
 clear ow bA gr1 h1
 go_wp2_with (at_builtin; refine wpl_append_bs rfl _ _ rfl w.heap.size _ n1 xs rfl a2 n2 c2 ys rfl ow1 (h2.below b1) (by omega) b1.size ?_)
 intro v2 w2 ow2 gr2 _
 have b2 : Below w.heap.size w w2 := below_app0 b1 b1.size ow1 gr2
 replace ow2 : w2.ownsRow w.heap.size 5 1 v2 (n1 + n2) (U8 (xs ++ ys)) := by simpa [U8] using ow2
 clear ow1 b1 gr2 h2
 go_wp2_with (at_builtin; refine wpl_append_bs rfl _ _ rfl w.heap.size _ (n1 + n2) (xs ++ ys) rfl a3 n3 c3 zs rfl ow2 (h3.below b2) (by omega) b2.size ?_)
 intro v3 w3 ow3 gr3 _
 have b3 : Below w.heap.size w w3 := below_app0 b2 b2.size ow2 gr3
 clear ow2 b2 gr3 h3
 go_wp2
 go_ret
 exact ⟨v3, rfl, by simpa [U8] using ow3, b3⟩

set_option maxHeartbeats 2000000 in
theorem specL7mod (l : List Int) (w : World) (hl : l.length = 16) (hm : Lm l) :
  Calls Tryz.prog 93 #[.agg (I64 l).toArray] w fun e w' => e = .returned (.agg (I64 (redO (val l))).toArray) ∧ Below w.heap.size w w' := by
 have HM : Hid (∀ a c Z, Is Z a 16 c l → Calls Tryz.prog 121 #[.slice a 16 c] Z fun e w' => e = .returned (.agg (I64 (redO (val l))).toArray) ∧ Below Z.heap.size Z w') := by unfold Hid; intro a c Z h; exact specMod a 16 c l Z h hm (by omega)
 obtain ⟨R, hR⟩ : ∃ R, R = redO (val l) := ⟨_, rfl⟩
 have hRl : R.length = 16 := by rw [hR]; exact redO_len _
 rw [← hR] at HM ⊢
 clear hR
 have jR := infoV' hRl
 obtain ⟨A, hA⟩ : ∃ A, A = (I64 l).toArray := ⟨_, rfl⟩
 rw [← hA]
 obtain ⟨W, hW⟩ : ∃ W, W = (w.alloc (.cells A 80)).alloc (.cells zV 80) := ⟨_, rfl⟩
 have g0 : Arr W w.heap.size 80 (I64 l) := by rw [hW, hA]; exact (Arr.new w (I64 l) _).alloc _
 have g1 : Arr W (w.heap.size + 1) 80 (I64 Z16) := by
  rw [hW]
  have := Arr.new (w.alloc (.cells A 80)) (I64 Z16) 80
  rw [World.size_alloc] at this
  exact this
 have gB : Below w.heap.size w W := by rw [hW]; exact ((Below.refl _ _).alloc (Nat.le_refl _) _).alloc (by simp) _
 clear hA
 go_enter Tryz.func93, Tryz.ntmps93
 go_wp2
 go_loopw [3, 4] (fun v i wr => ∃ k : Nat, k ≤ 16 ∧ i = .int .i64 k ∧ wr.ownsRow (w.heap.size + 2) 3 1 v k (I64 (l.take k)) ∧ Arr wr w.heap.size 80 (I64 l) ∧ Arr wr (w.heap.size + 1) 80 (I64 Z16) ∧ Below w.heap.size w wr ∧ w.heap.size + 2 ≤ wr.heap.size) (fun _ i _ => 16 - (intOf i).toNat)
 case atStart => exact ⟨0, by omega, rfl, by simpa using World.ownsRow_nil _ _ _ _, hW ▸ g0, hW ▸ g1, hW ▸ gB, by simp⟩
 case round =>
  clear g0 g1 gB hW
  obtain ⟨k, hk, rfl, ho, g0, g1, gB, gs⟩ := hrel
  by_cases hlt : k < 16
  ·obtain ⟨x, hx⟩ : ∃ x, x = l.getD k 0 := ⟨_, rfl⟩
   have hck := g0.i64 k (by omega)
   rw [← hx] at hck
   have hxb := gD_lm hm k
   rw [← hx] at hxb
   have hts := take_app l k (by omega)
   rw [← hx] at hts
   have HTS : Hid _ := hts
   have hk16 : (k : Int) < 16 := by omega
   have hk0 : (0 : Int) ≤ (k : Int) := by omega
   clear hts hx
   go_wp2_with (at_builtin; refine wpl_append_is rfl _ _ rfl (w.heap.size + 2) _ k (l.take k) rfl (some ⟨wr.heap.size, 0, none⟩) 1 1 [x] rfl (ho.alloc _) ?_ ?_ ?_ ?_)
   ·exact Is.one _ _ (by omega) (by omega)
   ·omega
   ·first | omega | (simp; omega)
   intro v' w' h1 h2 _
   have hbA : Below (w.heap.size + 2) wr w' := ((Below.refl _ _).alloc (by omega) _).grown h2 (by simp; omega) (fun j hj => (ho.lt j hj).1)
   have g0' := g0.below hbA (by omega)
   have g1' := g1.below hbA (by omega)
   have gB' := gB.trans (hbA.mono (by omega))
   have gs' := Nat.le_trans gs hbA.size
   have HR : Hid (w'.ownsRow (w.heap.size + 2) 3 1 v' (k + 1) (I64 (l.take (k + 1)))) := by
    unfold Hid
    rw [HTS.out]; simpa using h1
   clear h1 h2 ho g0 g1 gB hbA HTS hck
   go_wp2
   go_roundw
   case rel => exact ⟨k + 1, by omega, by go_num, HR.out, g0', g1', gB', gs'⟩
   case measure => simp [intOf]; omega
  ·obtain rfl : k = 16 := by omega
   rw [List.take_of_length_le (by omega)] at ho
   obtain ⟨a, c, rfl, _, hI⟩ := Is.own ho (fun x hx => by have := hm x hx; omega)
   clear ho g0
   go_wp2_with fail
   refine (HM.out _ _ _ hI).mono ?_
   rintro e y1 ⟨rfl, hb1⟩
   replace g1 := g1.kept hb1
   replace gB := gB.trans (hb1.mono gB.size)
   have h2 := g1.row (I64 R)
   have HB : Hid _ := setRow_below gB (w.heap.size + 1) (I64 R).toArray (by omega)
   go_wp2_with (refine wpList_store_row rfl 80 _ _ rfl (w.heap.size + 1) (I64 R).toArray rfl rfl 80 _ g1 jR (by simp [hRl]) (by simp [Value.oneCell']) ?_)
   exact bodyPost_ret (results_cell_row rfl _ _ (w.heap.size + 1) 80 (I64 R).toArray (0, 0) _ rfl h2 Tryz.underlying80 rfl jR) rfl ⟨rfl, HB.out⟩
set_option maxHeartbeats 4000000 in
theorem specScAdd16 (a b : List Int) (w : World) (ha : a.length = 16) (hb : b.length = 16) (la : Lm a) (lb : Lm b) (va : val a < qO) (vb : val b < qO) :
  Calls Tryz.prog 91 #[.agg (I64 a).toArray, .agg (I64 b).toArray] w fun e w' => e = .returned (.agg (I64 (redO (val a + val b))).toArray) ∧ Below w.heap.size w w' := by
 obtain ⟨zs, hzs⟩ : ∃ zs, zs = List.zipWith (fun x y => x + y) a b := ⟨_, rfl⟩
 have hzl : zs.length = 16 := by rw [hzs]; simp [ha, hb]
 have hzd : Dp zs := by rw [hzs]; exact dp_zip la lb
 have hzv : val zs + 0 = val a + val b := by rw [hzs]; rw [zipAdd_val a b (by omega)]; omega
 have hzx : ∀ k, k < 16 → zs.getD k 0 = a.getD k 0 + b.getD k 0 := by
  intro k hk
  rw [hzs]
  simp [List.getD, List.getElem?_zipWith, show k < a.length by omega, show k < b.length by omega]
 obtain ⟨t, ht⟩ : ∃ t, t = val a + val b := ⟨_, rfl⟩
 have n0 := val_nonneg (fun x hx => (la x hx).1)
 have n1 := val_nonneg (fun x hx => (lb x hx).1)
 have ht0 : 0 ≤ t := by rw [ht]; omega
 have ht1 : t < 2 * qO := by rw [ht]; omega
 have hFe : cps zs 0 = lim 16 t := by rw [cps_lim, hzl, hzv, ht]
 have hFl : (cps zs 0).length = 16 := by rw [cps_len, hzl]
 have hFm : Lm (cps zs 0) := by rw [hFe]; exact lim_lm _ _
 have hFv : val (cps zs 0) = t := by rw [hFe]; exact val_lim16 ht0 ht1
 have hless := lessO ht0 ht1
 rw [← ht]
 have HY : Hid (t < qO → cps zs 0 = redO t) := by unfold Hid; intro h; rw [hFe]; exact hless.1 h
 have HN : Hid (¬ t < qO → tk16 (cps zs 0) OL = redO t) := by unfold Hid; intro h; rw [tk16_lim hFl OL_len, hFv, OL_val]; exact hless.2 h
 have HZX : Hid _ := hzx
 have HFV : Hid _ := hFv
 have HZD : Hid _ := hzd
 clear hzs hzv hzx ht ht0 ht1 hFe hFv hless n0 hzd n1
 obtain ⟨W, hW⟩ : ∃ W, W = ((w.alloc (.cells (I64 a).toArray 80)).alloc (.cells (I64 b).toArray 80)).alloc (.cells zV 80) := ⟨_, rfl⟩
 have h0 : Arr W w.heap.size 80 (I64 (cps (zs.take 0) 0 ++ a.drop 0)) := by rw [hW]; exact ((Arr.new w (I64 a) _).alloc _).alloc _
 have h1 : Arr W (w.heap.size + 1) 80 (I64 b) := by
  rw [hW]
  have := (Arr.new (w.alloc (.cells (I64 a).toArray 80)) (I64 b) 80).alloc (.cells (I64 Z16).toArray 80)
  rw [World.size_alloc] at this
  exact this
 have h2 : Arr W (w.heap.size + 2) 80 (I64 Z16) := by
  rw [hW]
  have := Arr.new ((w.alloc (.cells (I64 a).toArray 80)).alloc (.cells (I64 b).toArray 80)) (I64 Z16) 80
  rw [World.size_alloc, World.size_alloc] at this
  exact this
 have hBl : Below w.heap.size w W := by rw [hW]; exact (((Below.refl _ _).alloc (Nat.le_refl _) _).alloc (by simp) _).alloc (by simp; omega) _
 obtain ⟨A, hA⟩ : ∃ A, A = (I64 a).toArray := ⟨_, rfl⟩
 obtain ⟨Bv, hBv⟩ : ∃ B, B = (I64 b).toArray := ⟨_, rfl⟩
 rw [← hA, ← hBv] at hW ⊢
 have HA : Hid _ := hA
 clear hA hBv
 go_enter Tryz.func91, Tryz.ntmps91
 go_wp2
 rw [← hW]
 clear hW
 go_loopw [5, 6] (fun c i wr => ∃ (k : Nat) (d : Int), k ≤ 16 ∧ c = .int .i64 d ∧ d = cpc (zs.take k) 0 ∧ i = .int .i64 k ∧ Arr wr w.heap.size 80 (I64 (cps (zs.take k) 0 ++ a.drop k)) ∧ Arr wr (w.heap.size + 1) 80 (I64 b) ∧ Arr wr (w.heap.size + 2) 80 (I64 Z16) ∧ Below w.heap.size w wr) (fun _ i _ => 16 - (intOf i).toNat)
 case atStart => exact ⟨0, 0, by omega, rfl, by simp [cpc], rfl, h0, h1, h2, hBl⟩
 case round =>
  clear h0 h1 h2 hBl
  obtain ⟨k, d, hk, rfl, hd, rfl, h0, h1, h2, hBl⟩ := hrel
  have hfl : (cps (zs.take k) 0).length = k := by rw [cps_len]; simp; omega
  have hdb := cpc_one (l := zs.take k) (fun x hx => HZD.out x (List.mem_of_mem_take hx)) (c := 0) (by omega) (by omega)
  rw [← hd] at hdb
  by_cases hlt : k < 16
  ·obtain ⟨x, hx⟩ : ∃ x, x = a.getD k 0 := ⟨_, rfl⟩
   have cx : wr.cell? ⟨w.heap.size, k, none⟩ = some (.int .i64 x) := by
    rw [h0.i64 k (by rw [len_app hfl (by omega)]; omega), get_app hfl, hx]
   have bx := gD_lm la k
   rw [← hx] at bx
   obtain ⟨y, hy⟩ : ∃ y, y = b.getD k 0 := ⟨_, rfl⟩
   have cy : wr.cell? ⟨w.heap.size + 1, k, none⟩ = some (.int .i64 y) := by rw [hy]; exact h1.i64 k (by omega)
   have by' := gD_lm lb k
   rw [← hy] at by'
   have hz := HZX.out k hlt
   rw [← hx, ← hy] at hz
   have hts := take_app zs k (by omega)
   rw [hz] at hts
   have hs1 : cps (zs.take (k + 1)) 0 = cps (zs.take k) 0 ++ [(x + y + d) % 65536] := by rw [hts, cps_snoc, hd]
   have hs2 : cpc (zs.take (k + 1)) 0 = (x + y + d) / 65536 := by rw [hts, cpc_snoc, hd]
   have hk16 : (k : Int) < 16 := by omega
   have hk0 : (0 : Int) ≤ (k : Int) := by omega
   have hfz := h0.frozen k
   have h0' := h0.set k (.int .i64 ((x + y + d) % 65536))
   rw [set_app hfl (show k < a.length by omega), ← hs1] at h0'
   have h1' := h1.other ⟨w.heap.size, k, none⟩ (.int .i64 ((x + y + d) % 65536)) (by simp)
   have h2' := h2.other ⟨w.heap.size, k, none⟩ (.int .i64 ((x + y + d) % 65536)) (by simp)
   have hb' := hBl.setCell (p := ⟨w.heap.size, k, none⟩) (Nat.le_refl _) (.int .i64 ((x + y + d) % 65536))
   have s0 : IntKind.i64.wrap (x + y) = x + y := by rw [IntKind.wrap_i64]; omega
   have s1 : IntKind.i64.wrap (x + y + d) = x + y + d := by rw [IntKind.wrap_i64]; omega
   have s2 : bits .and .i64 (x + y + d) 65535 = (x + y + d) % 65536 := i64_low16 (by omega) (by omega)
   have H0 : Hid _ := h0'
   have H1 : Hid _ := h1'
   clear h1' h1
   have H2 : Hid _ := h2'
   have HB : Hid _ := hb'
   have HC : Hid _ := hs2
   clear h0' h2' hb' h0 h2 hBl hx hd hz hts hs1 hs2 hy
   go_wp2
   go_quiet (fail)
   rename_i nq
   go_wp2
   go_roundw
   case rel => exact ⟨k + 1, (x + y + d) / 65536, by omega, rfl, HC.out.symm, by go_num, Arr.drewN H0.out _, Arr.drewN H1.out _, Arr.drewN H2.out _, bel_dN HB.out _⟩
   case measure => simp [intOf]; omega
  ·obtain rfl : k = 16 := by omega
   rw [List.take_of_length_le (by omega), List.drop_eq_nil_of_le (by omega), List.append_nil] at h0
   obtain ⟨F, hF⟩ : ∃ F, F = cps zs 0 := ⟨_, rfl⟩
   rw [← hF] at h0 hFl hFm HY HN HFV
   clear hF hd hdb hfl h1
   go_wp2_with fail
   refine (specOrder _).mono ?_
   rintro e w1 ⟨rfl, hb1⟩
   have hB1 := hBl.trans (hb1.mono hBl.size)
   have h01 := h0.kept hb1
   have h21 := h2.kept hb1
   have hsz1 := h21.lt
   clear h0 h2 hBl hb1
   obtain ⟨W2, hW2⟩ : ∃ W2, W2 = (w1.alloc (.cells zV 80)).setRow w1.heap.size (I64 OL).toArray := ⟨_, rfl⟩
   have hz1 : Arr (w1.alloc (.cells zV 80)) w1.heap.size 80 (I64 Z16) := Arr.new w1 (I64 Z16) _
   have hp2 : Arr W2 w1.heap.size 80 (I64 OL) := by rw [hW2]; exact hz1.row (I64 OL)
   have h02 : Arr W2 w.heap.size 80 (I64 F) := by rw [hW2]; exact (h01.alloc _).rowOther _ _ (by omega)
   have h22 : Arr W2 (w.heap.size + 2) 80 (I64 Z16) := by rw [hW2]; exact (h21.alloc _).rowOther _ _ (by omega)
   have hB2 : Below w.heap.size w W2 := by rw [hW2]; exact setRow_below (hB1.alloc hB1.size _) _ _ hB1.size
   have hiF : (Tryz.prog.info? 80).map (·.size) = some (I64 F).toArray.size := by simpa [hFl] using infoE
   have h02' := hW2 ▸ h02
   have hp2' := hW2 ▸ hp2
   have HW2 : Hid _ := hW2
   clear h01 h21 hB1 hW2
   go_wp2_with (first
    | (refine wpList_store_row rfl 80 _ _ rfl w1.heap.size (I64 OL).toArray rfl rfl 80 (I64 Z16).toArray hz1 infoE rfl (by simp [OL, Value.oneCell']) ?_)
    | (refine wpList_load_row rfl 80 _ rfl w.heap.size rfl 80 (I64 F).toArray (0, 0) _ h02' Tryz.underlying80 rfl hiF ?_)
    | (refine wpList_load_row rfl 80 _ rfl w1.heap.size rfl 80 (I64 OL).toArray (0, 0) _ hp2' Tryz.underlying80 rfl infoE ?_))
   rw [← HW2.out]
   clear HW2 h02' hp2' hz1
   refine (specLess F OL _ hFl OL_len hFm OL_lm).mono ?_
   rintro e w3 ⟨rfl, hb3⟩
   have h03 := h02.kept hb3
   have h23 := h22.kept hb3
   have hp3 := hp2.kept hb3
   have hB3 := hB2.trans (hb3.mono hB2.size)
   rw [OL_val, HFV.out]
   clear h02 h22 hp2 hB2 hb3
   by_cases hlp : t < qO
   ·have hd : decide (t < qO) = true := by simp [hlp]
    rw [hd]
    have hFR := HY.out hlp
    have h23' := h23.row (I64 F)
    have hb' := setRow_below hB3 (w.heap.size + 2) (I64 F).toArray (by omega)
    clear hd hlp
    go_wp2_with (first
     | (refine wpList_load_row rfl 80 _ rfl w.heap.size rfl 80 (I64 F).toArray (0, 0) _ h03 Tryz.underlying80 rfl hiF ?_)
     | (refine wpList_store_row rfl 80 _ _ rfl (w.heap.size + 2) (I64 F).toArray rfl rfl 80 _ h23 hiF (by simp [hFl]) (by simp [Value.oneCell']) ?_))
    exact bodyPost_ret (results_cell_row rfl _ _ (w.heap.size + 2) 80 (I64 F).toArray (0, 0) _ rfl h23' Tryz.underlying80 rfl hiF) rfl ⟨by rw [← hFR], hb'⟩
   ·have hd : decide (t < qO) = false := by simp [hlp]
    rw [hd]
    have hGR := HN.out (by omega)
    clear hd hlp
    go_wp2_with (first
     | (refine wpList_load_row rfl 80 _ rfl w.heap.size rfl 80 (I64 F).toArray (0, 0) _ h03 Tryz.underlying80 rfl hiF ?_)
     | (refine wpList_load_row rfl 80 _ rfl w1.heap.size rfl 80 (I64 OL).toArray (0, 0) _ hp3 Tryz.underlying80 rfl infoE ?_))
    refine (specTake F OL _ hFl OL_len hFm OL_lm).mono ?_
    rintro e w4 ⟨rfl, hb4⟩
    have h04 := h03.kept hb4
    have h24 := h23.kept hb4
    have hB4 := hB3.trans (hb4.mono hB3.size)
    have hGl : (tk16 F OL).length = 16 := by rw [tk16_lim hFl OL_len, lim_len]
    obtain ⟨G, hG⟩ : ∃ G, G = tk16 F OL := ⟨_, rfl⟩
    rw [← hG] at hGl hGR ⊢
    have hiG : (Tryz.prog.info? 80).map (·.size) = some (I64 G).toArray.size := by simpa [hGl] using infoE
    have HGR : Hid _ := hGR
    clear hGR h03 h23 hp3 hB3 hb4 hG
    have h05 := h04.row (I64 G)
    have h25 := h24.rowOther w.heap.size (I64 G).toArray (by omega)
    have hB5 := setRow_below hB4 w.heap.size (I64 G).toArray (Nat.le_refl _)
    have h26 := h25.row (I64 G)
    have hb' := setRow_below hB5 (w.heap.size + 2) (I64 G).toArray (by omega)
    go_wp2_with (first
     | (refine wpList_store_row rfl 80 _ _ rfl w.heap.size (I64 G).toArray rfl rfl 80 _ h04 hiG (by simp [hGl, hFl]) (by simp [Value.oneCell']) ?_)
     | (refine wpList_load_row rfl 80 _ rfl w.heap.size rfl 80 (I64 G).toArray (0, 0) _ h05 Tryz.underlying80 rfl hiG ?_)
     | (refine wpList_store_row rfl 80 _ _ rfl (w.heap.size + 2) (I64 G).toArray rfl rfl 80 _ h25 hiG (by simp [hGl]) (by simp [Value.oneCell']) ?_))
    exact bodyPost_ret (results_cell_row rfl _ _ (w.heap.size + 2) 80 (I64 G).toArray (0, 0) _ rfl h26 Tryz.underlying80 rfl hiG) rfl ⟨by rw [← HGR.out], hb'⟩
theorem mul_p {x y : Int} (hx0 : 0 ≤ x) (hx1 : x < 65536) (hy0 : 0 ≤ y) (hy1 : y < 65536) : 0 ≤ x * y ∧ x * y ≤ 4294836225 := by
 refine ⟨Int.mul_nonneg hx0 hy0, ?_⟩
 have h1 : x * y ≤ 65535 * y := Int.mul_le_mul_of_nonneg_right (by omega) hy0
 omega
structure Tr (a b t : List Int) (i k : Nat) : Prop where
 len : t.length = 33
 vl : val t = prodAt a b i k
 le : ∀ x ∈ t, 0 ≤ x ∧ x ≤ (16 * (i : Int) + (k : Int)) * 4294836225
theorem Tr.get {a b t : List Int} {i k : Nat} (h : Tr a b t i k) (j : Nat) : 0 ≤ t.getD j 0 ∧ t.getD j 0 ≤ (16 * (i : Int) + (k : Int)) * 4294836225 := by
 by_cases hj : j < t.length
 ·have : t.getD j 0 ∈ t := by rw [List.getD_eq_getElem?_getD, List.getElem?_eq_getElem hj]; exact List.getElem_mem _
  exact h.le _ this
 ·rw [List.getD_eq_getElem?_getD, List.getElem?_eq_none (by omega)]; simp; omega
theorem Tr.step {a b t : List Int} {i k : Nat} (h : Tr a b t i k) (hi : i < 16) (hk : k < b.length) (hk16 : k < 16) {p : Int} (hp : p = a.getD i 0 * b.getD k 0) (hp0 : 0 ≤ p) (hp1 : p ≤ 4294836225) : Tr a b (t.set (i + k) (t.getD (i + k) 0 + p)) i (k + 1) := by
 have hl := h.len
 have hg := h.get (i + k)
 refine ⟨by simp [hl], ?_, ?_⟩
 ·rw [val_set t (i + k) (by omega), h.vl, prodAt_step a b i k hk, hp]
  congr 2
  omega
 ·intro x hx
  rcases List.mem_or_eq_of_mem_set hx with h1 | h1
  ·have := h.le x h1
   simp only [Int.natCast_add, Int.natCast_one]
   omega
  ·subst h1
   simp only [Int.natCast_add, Int.natCast_one]
   omega
theorem Tr.row {a b t : List Int} {i : Nat} (h : Tr a b t i 16) (hb : b.length = 16) (hi : i < a.length) : Tr a b t (i + 1) 0 := by
 refine ⟨h.len, ?_, fun x hx => ?_⟩
 ·rw [h.vl, ← prodAt_row a b i hi, hb]
 ·have := h.le x hx
  simp only [Int.natCast_add, Int.natCast_one] at this ⊢
  omega
abbrev Z33 : List Int := List.replicate 33 0
theorem Tr.zero (a b : List Int) : Tr a b Z33 0 0 := by
 refine ⟨rfl, ?_, ?_⟩
 ·have : val Z33 = 0 := by decide
  rw [this]; simp [prodAt, val]
 ·intro x hx
  have : x = 0 := by simpa using List.eq_of_mem_replicate hx
  omega
theorem cpc_gr {l : List Int} (h : ∀ x ∈ l, 0 ≤ x ∧ x < 70368744177664) : ∀ {c : Int}, 0 ≤ c → c ≤ 2147483648 → 0 ≤ cpc l c ∧ cpc l c ≤ 2147483648 := by
 induction l with
 | nil => intro c h0 h1; exact ⟨h0, h1⟩
 | cons x l ih =>
  intro c h0 h1
  have hx := h x (by simp)
  exact ih (fun y hy => h y (by simp [hy])) (by omega) (by omega)
theorem prod_lt {x y : Int} (hx0 : 0 ≤ x) (hx1 : x < 115792089237316195423570985008687907853269984665640564039457584007913129639936) (hy0 : 0 ≤ y) (hy1 : y < 115792089237316195423570985008687907853269984665640564039457584007913129639936) : 0 ≤ x * y ∧ x * y < 65536 ^ 33 := by
 refine ⟨Int.mul_nonneg hx0 hy0, ?_⟩
 have h1 : x * y ≤ 115792089237316195423570985008687907853269984665640564039457584007913129639936 * y := Int.mul_le_mul_of_nonneg_right (by omega) hy0
 have h2 : (65536 : Int) ^ 33 = 65536 * (115792089237316195423570985008687907853269984665640564039457584007913129639936 * 115792089237316195423570985008687907853269984665640564039457584007913129639936) := by decide
 rw [h2]
 omega

set_option maxHeartbeats 4000000 in
theorem specScMul16 (a b : List Int) (w : World) (ha : a.length = 16) (hb : b.length = 16) (la : Lm a) (lb : Lm b) :
  Calls Tryz.prog 92 #[.agg (I64 a).toArray, .agg (I64 b).toArray] w fun e w' => e = .returned (.agg (I64 (redO (val a * val b))).toArray) ∧ Below w.heap.size w w' := by
 have va := val_lt la
 have vb := val_lt lb
 rw [ha, p256] at va
 rw [hb, p256] at vb
 have hpv := prod_lt (val_nonneg (fun x hx => (la x hx).1)) va (val_nonneg (fun x hx => (lb x hx).1)) vb
 have HV : Hid (val (lim 33 (val a * val b)) = val a * val b) := by unfold Hid; rw [val_lim, Int.emod_eq_of_lt hpv.1 hpv.2]
 obtain ⟨C, hC⟩ : ∃ C : Array Value, C = (I64 Z33).toArray := ⟨_, rfl⟩
 have hmk : ∀ Z : World, (Instr.makeSlice 29 (.int .i64 33) (.int .i64 33)).run Tryz.prog Z = .ok (.slice (some ⟨Z.heap.size, 0, none⟩) 33 33) (Z.alloc (.cells C 3)) := by
  intro Z
  obtain ⟨i0, hi, hz0, hz1, hz2⟩ := info_parts Tryz.info3
  have := run_make (P := Tryz.prog) Z 29 3 i0 (.int .i64 0) Tryz.underlying29 hi hz0 .i64 .i64 33 33 (by omega) (by omega) (by rw [hz2]; omega) (by omega)
  rw [this, hz1, show madeCells (Value.int .i64 0).cells (Int.toNat 33 * 1) = C by rw [hC]; kernel_rfl]
  rfl
 obtain ⟨W, hW⟩ : ∃ W, W = (((w.alloc (.cells (I64 a).toArray 80)).alloc (.cells (I64 b).toArray 80)).alloc (.cells zV 80)).alloc (.cells C 3) := ⟨_, rfl⟩
 have h0 : Arr W w.heap.size 80 (I64 a) := by rw [hW]; exact (((Arr.new w (I64 a) _).alloc _).alloc _).alloc _
 have h1 : Arr W (w.heap.size + 1) 80 (I64 b) := by
  rw [hW]
  have := ((Arr.new (w.alloc (.cells (I64 a).toArray 80)) (I64 b) 80).alloc (.cells (I64 Z16).toArray 80)).alloc (.cells C 3)
  rw [World.size_alloc] at this
  exact this
 have h2 : Arr W (w.heap.size + 2) 80 (I64 Z16) := by
  rw [hW]
  have := (Arr.new ((w.alloc (.cells (I64 a).toArray 80)).alloc (.cells (I64 b).toArray 80)) (I64 Z16) 80).alloc (.cells C 3)
  rw [World.size_alloc, World.size_alloc] at this
  exact this
 have h3 : Arr W (w.heap.size + 3) 3 (I64 Z33) := by
  rw [hW, hC]
  have := Arr.new (((w.alloc (.cells (I64 a).toArray 80)).alloc (.cells (I64 b).toArray 80)).alloc (.cells (I64 Z16).toArray 80)) (I64 Z33) 3
  rw [World.size_alloc, World.size_alloc, World.size_alloc] at this
  exact this
 have hBl : Below w.heap.size w W := by rw [hW]; exact ((((Below.refl _ _).alloc (Nat.le_refl _) _).alloc (by simp) _).alloc (by simp; omega) _).alloc (by simp; omega) _
 obtain ⟨A, hA⟩ : ∃ A, A = (I64 a).toArray := ⟨_, rfl⟩
 obtain ⟨B, hB⟩ : ∃ B, B = (I64 b).toArray := ⟨_, rfl⟩
 rw [← hA, ← hB] at hW ⊢
 clear hA hB hC va vb hpv
 go_enter Tryz.func92, Tryz.ntmps92
 go_wp2
 rw [← hW]
 clear hW hmk
 go_loopw [6] (fun i wr => ∃ (k : Nat) (t : List Int), k ≤ 16 ∧ i = .int .i64 k ∧ Tr a b t k 0 ∧ Arr wr w.heap.size 80 (I64 a) ∧ Arr wr (w.heap.size + 1) 80 (I64 b) ∧ Arr wr (w.heap.size + 2) 80 (I64 Z16) ∧ Arr wr (w.heap.size + 3) 3 (I64 t) ∧ Below w.heap.size w wr) (fun i _ => 16 - (intOf i).toNat)
 case atStart => exact ⟨0, Z33, by omega, rfl, Tr.zero a b, h0, h1, h2, h3, hBl⟩
 case round =>
  clear h0 h1 h2 h3 hBl
  obtain ⟨i, t, hi, rfl, TP, h0, h1, h2, h3, hBl⟩ := hrel
  by_cases hi16 : i < 16
  ·have hi' : (i : Int) < 16 := by omega
   go_wp2
   go_loopw [7] (fun c wr => ∃ (k : Nat) (t : List Int), k ≤ 16 ∧ c = .int .i64 k ∧ Tr a b t i k ∧ Arr wr w.heap.size 80 (I64 a) ∧ Arr wr (w.heap.size + 1) 80 (I64 b) ∧ Arr wr (w.heap.size + 2) 80 (I64 Z16) ∧ Arr wr (w.heap.size + 3) 3 (I64 t) ∧ Below w.heap.size w wr) (fun c _ => 16 - (intOf c).toNat)
   case atStart => exact ⟨0, t, by omega, rfl, TP, h0, h1, h2, h3, hBl⟩
   case round =>
    clear h0 h1 h2 h3 hBl TP t
    obtain ⟨k, t, hk, rfl, TP, h0, h1, h2, h3, hBl⟩ := hrel
    by_cases hk16 : k < 16
    ·obtain ⟨x, hx⟩ : ∃ x, x = a.getD i 0 := ⟨_, rfl⟩
     obtain ⟨y, hy⟩ : ∃ y, y = b.getD k 0 := ⟨_, rfl⟩
     obtain ⟨z, hz⟩ : ∃ z, z = t.getD (i + k) 0 := ⟨_, rfl⟩
     have bx := gD_lm la i
     have by' := gD_lm lb k
     have bz := TP.get (i + k)
     rw [← hx] at bx
     rw [← hy] at by'
     rw [← hz] at bz
     have cx : wr.cell? ⟨w.heap.size, i, none⟩ = some (.int .i64 x) := by rw [hx]; exact h0.i64 i (by omega)
     have cy : wr.cell? ⟨w.heap.size + 1, k, none⟩ = some (.int .i64 y) := by rw [hy]; exact h1.i64 k (by omega)
     have htl := TP.len
     have cz : wr.cell? ⟨w.heap.size + 3, i + k, none⟩ = some (.int .i64 z) := by rw [hz]; exact h3.i64 (i + k) (by omega)
     have hpb := mul_p bx.1 bx.2 by'.1 by'.2
     have TP2 := TP.step hi16 (by omega) hk16 (p := x * y) (by rw [hx, hy]) hpb.1 hpb.2
     rw [← hz] at TP2
     obtain ⟨p, hp⟩ : ∃ p, p = x * y := ⟨_, rfl⟩
     rw [← hp] at TP2 hpb
     have s0 : IntKind.i64.wrap (x * y) = p := by rw [← hp, IntKind.wrap_i64]; omega
     have s1 : IntKind.i64.wrap (z + p) = z + p := by rw [IntKind.wrap_i64]; omega
     have s2 : IntKind.i64.wrap ((i : Int) + (k : Int)) = (i : Int) + (k : Int) := by rw [IntKind.wrap_i64]; omega
     have s3 : ((i : Int) + (k : Int)).toNat = i + k := by omega
     have s4 : (i : Int) + (k : Int) < 33 := by omega
     have s5 : (0 : Int) ≤ (i : Int) + (k : Int) := by omega
     have s6 : (0 : Int) ≤ (i : Int) := by omega
     have s7 : (0 : Int) ≤ (k : Int) := by omega
     have hk' : (k : Int) < 16 := by omega
     have hfz := h3.frozen (i + k)
     have e : (I64 t).set (i + k) (.int .i64 (z + p)) = I64 (t.set (i + k) (z + p)) := by simp
     have h3' := h3.set (i + k) (.int .i64 (z + p))
     rw [e] at h3'
     have h0' := h0.other ⟨w.heap.size + 3, i + k, none⟩ (.int .i64 (z + p)) (by simp)
     have h1' := h1.other ⟨w.heap.size + 3, i + k, none⟩ (.int .i64 (z + p)) (by simp)
     have h2' := h2.other ⟨w.heap.size + 3, i + k, none⟩ (.int .i64 (z + p)) (by simp)
     have hb' := hBl.setCell (p := ⟨w.heap.size + 3, i + k, none⟩) (by simp) (.int .i64 (z + p))
     have H0 : Hid _ := h0'.drew
     have H1 : Hid _ := h1'.drew
     have H2 : Hid _ := h2'.drew
     have H3 : Hid _ := h3'.drew
     have HB : Hid _ := hb'.drew
     have HT : Hid _ := TP2
     clear h0' h1' h2' h3' hb' e h0 h1 h2 h3 hBl hx hy hz TP TP2 hp htl
     go_wp2
     go_region
     clear cx cy cz hfz
     go_wp2
     go_roundw
     case rel => exact ⟨k + 1, _, by omega, by go_num, HT.out, H0.out, H1.out, H2.out, H3.out, HB.out⟩
     case measure => simp [intOf]; omega
    ·obtain rfl : k = 16 := by omega
     have TP2 := TP.row hb (by omega)
     clear TP
     go_wp2
     go_roundw
     case rel => exact ⟨i + 1, t, by omega, by go_num, TP2, h0, h1, h2, h3, hBl⟩
     case measure => simp [intOf]; omega
  ·obtain rfl : i = 16 := by omega
   have htl := TP.len
   have htv : cps t 0 = lim 33 (val a * val b) := by rw [cps_lim, htl, TP.vl, prodAt_end a b ha, Int.add_zero]
   have htg : ∀ x ∈ t, 0 ≤ x ∧ x < 70368744177664 := fun x hx => by have := TP.le x hx; omega
   have htb := fun k => TP.get k
   have HTV : Hid _ := htv
   have HTB : Hid _ := htb
   clear TP h0 h1 htv htb
   go_wp2
   go_loopw [8, 9] (fun c i wr => ∃ (k : Nat) (d : Int), k ≤ 33 ∧ c = .int .i64 d ∧ d = cpc (t.take k) 0 ∧ i = .int .i64 k ∧ Arr wr (w.heap.size + 2) 80 (I64 Z16) ∧ Arr wr (w.heap.size + 3) 3 (I64 (cps (t.take k) 0 ++ t.drop k)) ∧ Below w.heap.size w wr) (fun _ i _ => 33 - (intOf i).toNat)
   case atStart => exact ⟨0, 0, by omega, rfl, by simp [cpc], rfl, h2, h3, hBl⟩
   case round =>
    clear h2 h3 hBl
    obtain ⟨k, d, hk, rfl, hd, rfl, h2, h3, hBl⟩ := hrel
    have hfl : (cps (t.take k) 0).length = k := by rw [cps_len]; simp; omega
    have hdb := cpc_gr (l := t.take k) (fun x hx => htg x (List.mem_of_mem_take hx)) (c := 0) (by omega) (by omega)
    rw [← hd] at hdb
    by_cases hlt : k < 33
    ·obtain ⟨x, hx⟩ : ∃ x, x = t.getD k 0 := ⟨_, rfl⟩
     have bx := HTB.out k
     rw [← hx] at bx
     have cx : wr.cell? ⟨w.heap.size + 3, k, none⟩ = some (.int .i64 x) := by
      rw [h3.i64 k (by rw [len_app hfl (by omega)]; omega), get_app hfl, hx]
     have hts := take_app t k (by omega)
     rw [← hx] at hts
     have hs1 : cps (t.take (k + 1)) 0 = cps (t.take k) 0 ++ [(x + d) % 65536] := by rw [hts, cps_snoc, hd]
     have hs2 : cpc (t.take (k + 1)) 0 = (x + d) / 65536 := by rw [hts, cpc_snoc, hd]
     have hk16 : (k : Int) < 33 := by omega
     have hk0 : (0 : Int) ≤ (k : Int) := by omega
     have hfz := h3.frozen k
     have h3' := h3.set k (.int .i64 ((x + d) % 65536))
     rw [set_app hfl (show k < t.length by omega), ← hs1] at h3'
     have h2' := h2.other ⟨w.heap.size + 3, k, none⟩ (.int .i64 ((x + d) % 65536)) (by simp)
     have hb' := hBl.setCell (p := ⟨w.heap.size + 3, k, none⟩) (by simp) (.int .i64 ((x + d) % 65536))
     have s1 : IntKind.i64.wrap (x + d) = x + d := by rw [IntKind.wrap_i64]; omega
     have s2 : bits .and .i64 (x + d) 65535 = (x + d) % 65536 := i64_low16 (by omega) (by omega)
     have H2 : Hid _ := h2'
     have H3 : Hid _ := h3'
     have HB : Hid _ := hb'
     have HC : Hid _ := hs2
     clear h3' h2' hb' h2 h3 hBl hx hd hts hs1 hs2
     go_wp2
     go_roundw
     case rel => exact ⟨k + 1, (x + d) / 65536, by omega, rfl, HC.out.symm, by go_num, H2.out, H3.out, HB.out⟩
     case measure => simp [intOf]; omega
    ·obtain rfl : k = 33 := by omega
     rw [List.take_of_length_le (by omega), List.drop_eq_nil_of_le (by omega), List.append_nil, HTV.out] at h3
     have hLl : (lim 33 (val a * val b)).length = 33 := lim_len _ _
     have hLm : Lm (lim 33 (val a * val b)) := lim_lm _ _
     have hres := HV.out
     obtain ⟨L, hL⟩ : ∃ L, L = lim 33 (val a * val b) := ⟨_, rfl⟩
     rw [← hL] at h3 hLl hLm hres
     have hIs : Is wr (some ⟨w.heap.size + 3, 0, none⟩) 33 33 L := ⟨(fun h => by cases h), hLl, Nat.le_refl _, fun x hx => by have := hLm x hx; omega, .inr ⟨w.heap.size + 3, 0, rfl, h3.lt, fun j hj => by simpa using h3.i64 j (by omega)⟩⟩
     have HM := specMod (some ⟨w.heap.size + 3, 0, none⟩) 33 33 L wr hIs hLm (by omega)
     rw [hres] at HM
     have HM' : Hid (Calls Tryz.prog 121 #[.slice (some ⟨w.heap.size + 3, 0, none⟩) 33 33] wr fun e w' => e = .returned (.agg (I64 (redO (val a * val b))).toArray) ∧ Below wr.heap.size wr w') := HM
     clear HM hIs hL hLl hLm hres hfl hd hdb h3 HTV HTB
     go_wp2_with fail
     refine HM'.out.mono ?_
     rintro e w5 ⟨rfl, hb5⟩
     have h25 := h2.kept hb5
     have hB5 := hBl.trans (hb5.mono hBl.size)
     have hRl := redO_len (val a * val b)
     obtain ⟨R, hR⟩ : ∃ R, R = redO (val a * val b) := ⟨_, rfl⟩
     rw [← hR] at hRl ⊢
     have hir : (Tryz.prog.info? 80).map (·.size) = some (I64 R).toArray.size := by simpa [hRl] using infoE
     have HR : Hid _ := hR
     have hr := h25.row (I64 R)
     have hbl := setRow_below hB5 (w.heap.size + 2) (I64 R).toArray (by omega)
     clear hR h2 hBl hb5 HM'
     go_wp2_with (refine wpList_store_row rfl 80 _ _ rfl (w.heap.size + 2) (I64 R).toArray rfl rfl 80 _ h25 hir (by simp [hRl]) (by simp [Value.oneCell']) ?_)
     exact bodyPost_ret (results_cell_row rfl _ _ (w.heap.size + 2) 80 (I64 R).toArray (0, 0) _ rfl hr Tryz.underlying80 rfl hir) rfl ⟨by rw [HR.out], hbl⟩
end Go.Proofs.YtihoaakbkffejaaGreatDoor

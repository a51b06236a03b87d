/-
  What is proved here: the contract of the program's multiplierOfSum at two and at three slices; contracts of the specification's l7join and l7mod; the contract of the specification's l5add: the sum of two multipliers; the contract of the specification's l5mul: the product of two multipliers; the contract of the specification's l7sign; bytes as a string, and the contract of the library's bytes.Equal at slices; contracts of the specification's l4zero and l4eighth.
-/
import Derived.Test.YtihoaakbkffejaaGreatDoorVQk
import Derived.Test.YtihoaakbkffejaaGreatDoorVJrd
import Derived.Test.YtihoaakbkffejaaGreatDoorVKe
import Derived.Test.YtihoaakbkffejaaGreatDoorVFq
import Derived.Test.YtihoaakbkffejaaGreatDoorVOf
import Derived.Laws.MakeOwn
import Derived.Test.YtihoaakbkffejaaGreatDoorVFm
import Derived.Test.YtihoaakbkffejaaGreatDoorVUff
import Derived.Laws.BytesArg
import Derived.Laws.Strings
import Derived.Test.YtihoaakbkffejaaGreatDoorVFu
import Derived.ChangeKeysEq
import Derived.Test.YtihoaakbkffejaaGreatDoorVUd
import Derived.Test.YtihoaakbkffejaaGreatDoorVJg
namespace Go.Proofs.YtihoaakbkffejaaGreatDoor
open Go.RowKit
set_option maxRecDepth 100000

set_option maxHeartbeats 4000000 in
theorem msum_walk (g k : Nat) (T : List Int) (N : Nat) (w : World) (hl : T.length = N) (hb : ∀ x ∈ T, 0 ≤ x ∧ x < 256) (hn : N ≤ 20000) (hG : VarsOk w)
  (HC : Hid (∀ Z, Below w.heap.size w Z → Calls Tryz.prog 39 #[.slice (some ⟨g, 0, none⟩) k k] Z fun e w' => ∃ v, e = .returned v ∧ w'.ownsRow Z.heap.size 5 1 v N (U8 T) ∧ Below Z.heap.size Z w')) :
  Calls Tryz.prog 35 #[.slice (some ⟨g, 0, none⟩) k k] w fun e w' => ∃ a' c', e = .returned (.agg #[.slice a' 16 c']) ∧ w'.ownsRow w.heap.size 65 1 (.slice a' 16 c') 16 (I64 (mS T)) ∧ Below w.heap.size w w' := by
 have HH : Hid (∀ a c Z, Bs Z a N c T → Below w.heap.size w Z → Calls Tryz.prog 18 #[.slice a N c] Z fun e w' => ∃ a' c', e = .returned (.slice a' 64 c') ∧ Bs w' a' 64 c' (sumOfW T) ∧ Below Z.heap.size Z w') := by
  unfold Hid; intro a c Z h hZ
  refine (implSha512 a N c T Z h (hG.kept hZ).T (hG.kept hZ).F).mono ?_
  rintro e z ⟨v, rfl, ho, hb⟩
  have e1 : s512 T = sumOfW T := by unfold s512; rw [if_pos (by omega)]
  rw [e1, sumOfW_len] at ho
  obtain ⟨a', c', rfl, _, hB⟩ := Bs.own ho (sumOfW_byte _)
  exact ⟨a', c', rfl, hB, hb⟩
 have HW : Hid (∀ a c Z, Bs Z a 64 c (sumOfW T) → Below w.heap.size w Z → Calls Tryz.prog 17 #[.slice a 64 c] Z fun e w' => ∃ a' c', e = .returned (.tuple #[.agg #[.slice a' 16 c'], .bool true]) ∧ w'.ownsRow Z.heap.size 65 1 (.slice a' 16 c') 16 (I64 (mS T)) ∧ Below Z.heap.size Z w') := by
  unfold Hid; intro a c Z h hZ
  refine (implScWide a 64 c _ Z h (hG.kept hZ).O).mono ?_
  rintro e z ⟨v, rfl, ⟨a', c', rfl, oo⟩, hb⟩
  have e1 : wdOk (sumOfW T) = true := by unfold wdOk; exact decide_eq_true (sumOfW_len _)
  have e2 : wdF (sumOfW T) = mS T := by unfold wdF; rw [if_pos e1]; rfl
  have e3 : (mS T).length = 16 := redO_len _
  rw [e2, e3] at oo ⊢
  rw [e1]
  exact ⟨a', c', rfl, oo, hb⟩
 obtain ⟨M, hM⟩ : ∃ M, M = mS T := ⟨_, rfl⟩
 rw [← hM] at HW ⊢
 have HB : Hid _ := hb
 obtain ⟨W, hW⟩ : ∃ W, W = w.alloc (.cells #[.slice none 0 0] 41) := ⟨_, rfl⟩
 have pr : Arr W w.heap.size 41 [.slice none 0 0] := by rw [hW]; exact Arr.new _ _ _
 have fr : Below w.heap.size w W := by rw [hW]; exact (Below.refl _ _).alloc (Nat.le_refl _) _
 clear hM hG hb hl
 go_enter Tryz.func35, Tryz.ntmps35
 go_upto_region 1 with fail
 rw [← hW]
 clear hW
 go_wp2_with fail
 refine (HC.out _ fr).mono ?_
 rintro e y1 ⟨v, rfl, ho, hb1⟩
 obtain ⟨a1, c1, rfl, _, hB⟩ := Bs.own ho HB.out
 replace fr := fr.trans (hb1.mono fr.size)
 replace pr := pr.kept hb1
 clear hb1 ho
 go_wp2_with fail
 refine (HH.out _ _ _ hB fr).mono ?_
 rintro e y2 ⟨a2, c2, rfl, hB2, hb1⟩
 replace fr := fr.trans (hb1.mono fr.size)
 replace pr := pr.kept hb1
 clear hb1 hB
 have hl := pr.lt
 go_wp2_with fail
 refine (HW.out _ _ _ hB2 fr).mono ?_
 rintro e y3 ⟨a3, c3, rfl, oo, hb1⟩
 replace fr := fr.trans (hb1.mono fr.size)
 replace pr := pr.kept hb1
 have io := In.of oo
 clear hb1 hB2
 go_upto_region 2 with fail
 obtain ⟨Z, hZ⟩ : ∃ Z, Z = y3.alloc (.cells #[.slice a3 16 c3] 41) := ⟨_, rfl⟩
 have b6 : Below y3.heap.size y3 Z := by rw [hZ]; exact (Below.refl _ _).alloc (Nat.le_refl _) _
 have As : Arr Z y3.heap.size 41 [.slice a3 16 c3] := by rw [hZ]; exact Arr.new _ _ _
 rw [← hZ]
 clear hZ
 replace fr := fr.trans (b6.mono fr.size)
 replace pr := pr.kept b6
 replace oo := own_below oo b6
 have c0 : Z.cell? ⟨y3.heap.size, 0, none⟩ = some (.slice a3 16 c3) := As.cell 0
 have d0 : Z.cell? ⟨w.heap.size, 0, none⟩ = some (.slice none 0 0) := pr.cell 0
 have hf := pr.frozen 0
 have pr2 := pr.set 0 (.slice a3 16 c3)
 have fr2 := fr.setCell (p := ⟨w.heap.size, 0, none⟩) (Nat.le_refl _) (.slice a3 16 c3)
 have oo2 := own_other' oo ⟨w.heap.size, 0, none⟩ (.slice a3 16 c3) (by exact hl)
 clear b6 As
 go_wp2
 exact bodyPost_ret (results_cell_row rfl _ _ w.heap.size 41 #[.slice a3 16 c3] (0, 0) _ rfl pr2 Tryz.underlying41 rfl infoSc) rfl ⟨a3, c3, rfl, own_base oo2 (Nat.le_of_lt hl), fr2⟩

set_option maxHeartbeats 4000000 in
theorem implMSum3 (g : Nat) (a : Option Addr) (n1 c1 : Nat) (xs : List Int) (b : Option Addr) (n2 c2 : Nat) (ys : List Int) (d : Option Addr) (n3 c3 : Nat) (zs : List Int) (w : World) (hg : g < w.heap.size) (q0 : w.cell? ⟨g, 0, none⟩ = some (.slice a n1 c1)) (q1 : w.cell? ⟨g, 1, none⟩ = some (.slice b n2 c2)) (q2 : w.cell? ⟨g, 2, none⟩ = some (.slice d n3 c3)) (h0 : Bs w a n1 c1 xs) (h1 : Bs w b n2 c2 ys) (h2 : Bs w d n3 c3 zs) (hn : n1 + n2 + n3 ≤ 20000) (hG : VarsOk w) :
  Calls Tryz.prog 35 #[.slice (some ⟨g, 0, none⟩) 3 3] w fun e w' => ∃ a' c', e = .returned (.agg #[.slice a' 16 c']) ∧ w'.ownsRow w.heap.size 65 1 (.slice a' 16 c') 16 (I64 (mS (xs ++ ys ++ zs))) ∧ Below w.heap.size w w' := by
 have HC : Hid (∀ Z, Below w.heap.size w Z → Calls Tryz.prog 39 #[.slice (some ⟨g, 0, none⟩) 3 3] Z fun e w' => ∃ v, e = .returned v ∧ w'.ownsRow Z.heap.size 5 1 v (n1 + n2 + n3) (U8 (xs ++ ys ++ zs)) ∧ Below Z.heap.size Z w') := by
  unfold Hid; intro Z hZ; exact concat3 g a b d n1 c1 n2 c2 n3 c3 xs ys zs Z (Nat.lt_of_lt_of_le hg hZ.size) ((hZ.cell (p := ⟨g, 0, none⟩) hg).trans q0) ((hZ.cell (p := ⟨g, 1, none⟩) hg).trans q1) ((hZ.cell (p := ⟨g, 2, none⟩) hg).trans q2) (h0.below hZ) (h1.below hZ) (h2.below hZ) (by omega) (by omega) (by omega)
 have hb : ∀ x ∈ xs ++ ys ++ zs, 0 ≤ x ∧ x < 256 := (app_byte (app_byte h0.2.2.2.1 h1.2.2.2.1) h2.2.2.2.1)
 have hl : (xs ++ ys ++ zs).length = n1 + n2 + n3 := by simp only [List.length_append, h0.2.1, h1.2.1, h2.2.1]
 obtain ⟨T, hT⟩ : ∃ T, T = xs ++ ys ++ zs := ⟨_, rfl⟩
 obtain ⟨N, hN⟩ : ∃ N, N = n1 + n2 + n3 := ⟨_, rfl⟩
 rw [← hT, ← hN] at HC
 rw [← hT] at hb ⊢
 rw [← hT, ← hN] at hl
 rw [← hN] at hn
 exact msum_walk g 3 T N w hl hb hn hG HC
set_option maxHeartbeats 2000000 in
theorem specJoin (a1 a2 a3 : Option Addr) (n1 c1 n2 c2 n3 c3 : Nat) (xs ys zs : List Int) (w : World) (h1 : Bs w a1 n1 c1 xs) (h2 : Bs w a2 n2 c2 ys) (h3 : Bs w a3 n3 c3 zs) (hn : n1 + n2 + n3 ≤ 4194304) :
  Calls Tryz.prog 74 #[.slice a1 n1 c1, .slice a2 n2 c2, .slice a3 n3 c3] w fun e w' => ∃ v, e = .returned v ∧ w'.ownsRow w.heap.size 5 1 v (n1 + n2 + n3) (U8 (xs ++ ys ++ zs)) ∧ Below w.heap.size w w' := by
 have ow : (w.alloc (.cells #[] 5)).ownsRow w.heap.size 5 1 (.slice (some ⟨w.heap.size, 0, none⟩) 0 0) 0 (U8 []) := World.ownsRow_lit (base := w.heap.size) (e := 5) (size := 1) w #[] 0 (Nat.le_refl _) (by unfold maxLen; omega) rfl
 have bA : Below w.heap.size w (w.alloc (.cells #[] 5)) := (Below.refl _ _).alloc (Nat.le_refl _) _
 go_enter Tryz.func74, Tryz.ntmps74
 go_wp2_with (at_builtin; refine wpl_append_bs rfl _ _ rfl w.heap.size _ 0 [] rfl a1 n1 c1 xs rfl ow (h1.below bA) (by omega) (by simp) ?_)
 intro v1 w1 ow1 gr1 _
 have b1 : Below w.heap.size w w1 := below_app0 bA bA.size ow gr1
 clear ow bA gr1 h1
 go_wp2_with (at_builtin; refine wpl_append_bs rfl _ _ rfl w.heap.size _ n1 xs rfl a2 n2 c2 ys rfl ow1 (h2.below b1) (by omega) b1.size ?_)
 intro v2 w2 ow2 gr2 _
 have b2 : Below w.heap.size w w2 := below_app0 b1 b1.size ow1 gr2
 replace ow2 : w2.ownsRow w.heap.size 5 1 v2 (n1 + n2) (U8 (xs ++ ys)) := by simpa [U8] using ow2
 clear ow1 b1 gr2 h2
 go_wp2_with (at_builtin; refine wpl_append_bs rfl _ _ rfl w.heap.size _ (n1 + n2) (xs ++ ys) rfl a3 n3 c3 zs rfl ow2 (h3.below b2) (by omega) b2.size ?_)
 intro v3 w3 ow3 gr3 _
 have b3 : Below w.heap.size w w3 := below_app0 b2 b2.size ow2 gr3
 clear ow2 b2 gr3 h3
 go_wp2
 go_ret
 exact ⟨v3, rfl, by simpa [U8] using ow3, b3⟩
structure Tr (a b t : List Int) (i k : Nat) : Prop where
 len : t.length = 33
 vl : val t = prodAt a b i k
 le : ∀ x ∈ t, 0 ≤ x ∧ x ≤ (16 * (i : Int) + (k : Int)) * 4294836225
theorem Tr.get {a b t : List Int} {i k : Nat} (h : Tr a b t i k) (j : Nat) : 0 ≤ t.getD j 0 ∧ t.getD j 0 ≤ (16 * (i : Int) + (k : Int)) * 4294836225 := by
 by_cases hj : j < t.length
 ·have : t.getD j 0 ∈ t := by rw [List.getD_eq_getElem?_getD, List.getElem?_eq_getElem hj]; exact List.getElem_mem _
  exact h.le _ this
 ·rw [List.getD_eq_getElem?_getD, List.getElem?_eq_none (by omega)]; simp; omega
theorem Tr.step {a b t : List Int} {i k : Nat} (h : Tr a b t i k) (hi : i < 16) (hk : k < b.length) (hk16 : k < 16) {p : Int} (hp : p = a.getD i 0 * b.getD k 0) (hp0 : 0 ≤ p) (hp1 : p ≤ 4294836225) : Tr a b (t.set (i + k) (t.getD (i + k) 0 + p)) i (k + 1) := by
 have hl := h.len
 have hg := h.get (i + k)
 refine ⟨by simp [hl], ?_, ?_⟩
 ·rw [val_set t (i + k) (by omega), h.vl, prodAt_step a b i k hk, hp]
  congr 2
  omega
 ·intro x hx
  rcases List.mem_or_eq_of_mem_set hx with h1 | h1
  ·have := h.le x h1
   simp only [Int.natCast_add, Int.natCast_one]
   omega
  ·subst h1
   simp only [Int.natCast_add, Int.natCast_one]
   omega
theorem Tr.row {a b t : List Int} {i : Nat} (h : Tr a b t i 16) (hb : b.length = 16) (hi : i < a.length) : Tr a b t (i + 1) 0 := by
 refine ⟨h.len, ?_, fun x hx => ?_⟩
 ·rw [h.vl, ← prodAt_row a b i hi, hb]
 ·have := h.le x hx
  simp only [Int.natCast_add, Int.natCast_one] at this ⊢
  omega
abbrev Z33 : List Int := List.replicate 33 0
theorem Tr.zero (a b : List Int) : Tr a b Z33 0 0 := by
 refine ⟨rfl, ?_, ?_⟩
 ·have : val Z33 = 0 := by decide
  rw [this]; simp [prodAt, val]
 ·intro x hx
  have : x = 0 := by simpa using List.eq_of_mem_replicate hx
  omega
theorem mS_ok (xs : List Int) : scOk (mS xs) = true := redO_ok _
theorem specHash (a : Option Addr) (n c : Nat) (xs : List Int) (Z : World) (h : Bs Z a n c xs) (hn : n ≤ 20000) : Calls Tryz.prog 73 #[.slice a n c] Z fun e w' => ∃ a' c', e = .returned (.slice a' 64 c') ∧ Bs w' a' 64 c' (sumOfW xs) ∧ Below Z.heap.size Z w' := by
 refine (specL3sum a n c xs Z h hn).mono ?_
 rintro e w' ⟨v, rfl, ho, hb⟩
 obtain ⟨a', c', rfl, _, hB⟩ := Bs.own ho (sumOfW_byte _)
 exact ⟨a', c', rfl, hB, hb⟩
theorem str_eq {xs ys : List Int} (hx : ∀ x ∈ xs, 0 ≤ x ∧ x < 256) (hy : ∀ x ∈ ys, 0 ≤ x ∧ x < 256) : ((strOfNums xs).toList == (strOfNums ys).toList) = decide (xs = ys) := by
 have e : ∀ l : List Int, (strOfNums l).toList = l.map (fun n => UInt8.ofNat n.toNat) := fun l => by
  unfold strOfNums
  exact ByteArray.toList_mk _
 have back : ∀ l : List Int, (∀ x ∈ l, 0 ≤ x ∧ x < 256) → (l.map (fun n => UInt8.ofNat n.toNat)).map (fun u => (u.toNat : Int)) = l := by
  intro l hl
  rw [List.map_map]
  have : l.map ((fun u : UInt8 => (u.toNat : Int)) ∘ fun n : Int => UInt8.ofNat n.toNat) = l.map id := List.map_congr_left fun n hn => by
   have := hl n hn
   simp only [Function.comp, id]
   rw [UInt8.toNat_ofNat']
   omega
  rw [this, List.map_id]
 rw [e, e]
 by_cases h : xs = ys
 ·subst h; simp
 ·have h9 : xs.map (fun n => UInt8.ofNat n.toNat) ≠ ys.map (fun n => UInt8.ofNat n.toNat) := fun q => h (by rw [← back xs hx, ← back ys hy, q])
  rw [decide_eq_false h]
  exact beq_eq_false_iff_ne.2 h9
theorem bs_conv {w : World} {b o n c : Nat} {xs : List Int} (h : Bs w (some ⟨b, o, none⟩) n c xs) : (convert 22 9 (.slice (some ⟨b, o, none⟩) n c)).run Tryz.prog w = .ok (.string (strOfNums xs)) w := by
 obtain ⟨_, hl, _, _, hx⟩ := h
 refine run_convert_bytes_arg w 22 5 Tryz.underlying22 Tryz.underlying5 b o n c xs hl (fun i hi => ?_) 9 Tryz.underlying9
 rcases hx with hx | ⟨b', o', he, _, hcell⟩
 ·omega
 ·cases he
  exact hcell i hi

set_option maxHeartbeats 1000000 in
theorem equalB (b o n c b' o' m d : Nat) (xs ys : List Int) (w : World) (h : Bs w (some ⟨b, o, none⟩) n c xs) (k : Bs w (some ⟨b', o', none⟩) m d ys) :
  Calls Tryz.prog 88 #[.slice (some ⟨b, o, none⟩) n c, .slice (some ⟨b', o', none⟩) m d] w fun e w' => e = .returned (.bool (decide (xs = ys))) ∧ w' = w := by
 have h1 := bs_conv h
 have h2 := bs_conv k
 have e1 := str_eq h.2.2.2.1 k.2.2.2.1
 obtain ⟨s, hs⟩ : ∃ s, s = strOfNums xs := ⟨_, rfl⟩
 obtain ⟨t, ht⟩ : ∃ t, t = strOfNums ys := ⟨_, rfl⟩
 rw [← hs] at h1 e1
 rw [← ht] at h2 e1
 rw [← e1]
 clear e1 hs ht h k
 go_enter Tryz.func88, Tryz.ntmps88
 go_wp2
 go_ret
 exact ⟨rfl, rfl⟩
set_option maxHeartbeats 1000000 in
theorem specZero (a : List Int) (w : World) (ha : a.length = 16) :
  Calls Tryz.prog 119 #[.agg (I64 a).toArray] w fun e w' => e = .returned (.bool (decide (a = Z16))) ∧ Below w.heap.size w w' := by
 obtain ⟨r, hr⟩ : ∃ r, r = decide (a = Z16) := ⟨_, rfl⟩
 have hq : (Op.equalIn 10000 80 (.agg (I64 a).toArray) (.agg #[.int .i64 0, .int .i64 0, .int .i64 0, .int .i64 0, .int .i64 0, .int .i64 0, .int .i64 0, .int .i64 0, .int .i64 0, .int .i64 0, .int .i64 0, .int .i64 0, .int .i64 0, .int .i64 0, .int .i64 0, .int .i64 0])).run Tryz.prog (w.alloc (.cells (I64 a).toArray 80)) = .ok r (w.alloc (.cells (I64 a).toArray 80)) := by
  rw [hr]; exact run_eq16 a Z16 _ ha rfl
 rw [← hr]
 have g0 : Arr (w.alloc (.cells (I64 a).toArray 80)) w.heap.size 80 (I64 a) := Arr.new _ _ _
 have gB : Below w.heap.size w (w.alloc (.cells (I64 a).toArray 80)) := (Below.refl _ _).alloc (Nat.le_refl _) _
 clear hr
 go_enter Tryz.func119, Tryz.ntmps119
 go_wp2_with (refine wpList_load_row rfl 80 _ rfl w.heap.size rfl 80 (I64 a).toArray (0, 0) _ g0 Tryz.underlying80 rfl (by simpa [ha] using infoE) ?_)
 go_ret
 exact ⟨rfl, gB⟩

def E8 : List Int := [65534, 65535, 65535, 65535, 65535, 65535, 65535, 65535, 65535, 65535, 65535, 65535, 65535, 65535, 65535, 4095]
theorem E8_val : (val E8).toNat = eRt := by decide
set_option maxHeartbeats 2000000 in
theorem specEighth (w : World) :
  Calls Tryz.prog 139 #[] w fun e w' => e = .returned (.agg (I64 E8).toArray) ∧ Below w.heap.size w w' := by
 obtain ⟨W, hW⟩ : ∃ W, W = (w.alloc (.cells (I64 Z16).toArray 80)).alloc (.cells (I64 Z16).toArray 80) := ⟨_, rfl⟩
 have g0 : Arr W w.heap.size 80 (I64 Z16) := by rw [hW]; exact (Arr.new w (I64 Z16) _).alloc _
 have g1 : Arr W (w.heap.size + 1) 80 (I64 (List.replicate 0 65535 ++ Z16.drop 0)) := by
  rw [hW]
  have := Arr.new (w.alloc (.cells (I64 Z16).toArray 80)) (I64 Z16) 80
  rw [World.size_alloc] at this
  exact this
 have gB : Below w.heap.size w W := by rw [hW]; exact ((Below.refl _ _).alloc (Nat.le_refl _) _).alloc (by simp) _
 go_enter Tryz.func139, Tryz.ntmps139
 go_wp2
 go_loopw [2] (fun i wr => ∃ k : Nat, k ≤ 16 ∧ i = .int .i64 k ∧ Arr wr w.heap.size 80 (I64 Z16) ∧ Arr wr (w.heap.size + 1) 80 (I64 (List.replicate k 65535 ++ Z16.drop k)) ∧ Below w.heap.size w wr) (fun i _ => 16 - (intOf i).toNat)
 case atStart => exact ⟨0, by omega, rfl, hW ▸ g0, hW ▸ g1, hW ▸ gB⟩
 case round =>
  clear g0 g1 gB hW
  obtain ⟨k, hk, rfl, g0, g1, gB⟩ := hrel
  have hfl : (List.replicate k (65535 : Int)).length = k := by simp
  by_cases hlt : k < 16
  ·obtain ⟨u, hu⟩ : ∃ u, wr.cell? ⟨w.heap.size + 1, k, none⟩ = some u := by
    rw [g1.cell k]
    exact ⟨_, List.getElem?_eq_getElem (by simp; omega)⟩
   have hfz := g1.frozen k
   have g1' := g1.set k (.int .i64 65535)
   rw [set_app hfl (show k < Z16.length from hlt), ← List.replicate_succ'] at g1'
   have g0' := g0.other ⟨w.heap.size + 1, k, none⟩ (.int .i64 65535) (by simp)
   have gB' := gB.setCell (p := ⟨w.heap.size + 1, k, none⟩) (by simp) (.int .i64 65535)
   have hk16 : (k : Int) < 16 := by omega
   have hk0 : (0 : Int) ≤ (k : Int) := by omega
   have H0 : Hid _ := g0'
   have H1 : Hid _ := g1'
   have HB : Hid _ := gB'
   clear g0' g1' gB' g0 g1 gB
   go_wp2
   go_roundw
   case rel => exact ⟨k + 1, by omega, by go_num, H0.out, H1.out, HB.out⟩
   case measure => simp [intOf]; omega
  ·obtain rfl : k = 16 := by omega
   have c0 := g1.cell 0
   have f0 := g1.frozen 0
   have g2 := g1.set 0 (.int .i64 65534)
   have c15 := g2.cell 15
   have f15 := g2.frozen 15
   have g3 := g2.set 15 (.int .i64 4095)
   have gB2 := (gB.setCell (p := ⟨w.heap.size + 1, 0, none⟩) (by simp) (.int .i64 65534)).setCell (p := ⟨w.heap.size + 1, 15, none⟩) (by simp) (.int .i64 4095)
   have g4 := (g0.other ⟨w.heap.size + 1, 0, none⟩ (.int .i64 65534) (by simp)).other ⟨w.heap.size + 1, 15, none⟩ (.int .i64 4095) (by simp)
   replace g3 : Arr ((wr.setCell ⟨w.heap.size + 1, 0, none⟩ (.int .i64 65534)).setCell ⟨w.heap.size + 1, 15, none⟩ (.int .i64 4095)) (w.heap.size + 1) 80 (I64 E8) := g3
   replace c0 : wr.cell? ⟨w.heap.size + 1, 0, none⟩ = some (.int .i64 65535) := c0
   replace c15 : (wr.setCell ⟨w.heap.size + 1, 0, none⟩ (.int .i64 65534)).cell? ⟨w.heap.size + 1, 15, none⟩ = some (.int .i64 65535) := c15
   have g5 := g4.row (I64 E8)
   have gB5 := setRow_below gB2 w.heap.size (I64 E8).toArray (Nat.le_refl _)
   clear g0 g1 g2 gB gB2 hfl
   go_wp2_with (first
    | (refine wpList_load_row rfl 80 _ rfl (w.heap.size + 1) rfl 80 (I64 E8).toArray (0, 0) _ g3 Tryz.underlying80 rfl infoE ?_)
    | (refine wpList_store_row rfl 80 _ _ rfl w.heap.size (I64 E8).toArray rfl rfl 80 _ g4 infoE rfl (by simp [E8, Value.oneCell']) ?_))
   exact bodyPost_ret (results_cell_row rfl _ _ w.heap.size 80 (I64 E8).toArray (0, 0) _ rfl g5 Tryz.underlying80 rfl infoE) rfl ⟨rfl, gB5⟩
end Go.Proofs.YtihoaakbkffejaaGreatDoor

/-
  What is proved here: contracts of the specification's l4inv and l4zero: the inverse of a number of the field, and whether it is none; contracts of the specification's l4zero and l4eighth; when two arrays of ints are equal; the contract of the specification's FeInv.
-/
import Derived.Test.YtpchdfdeomhakaaDoorZI
import Derived.Test.YtpchdfdeomhakaaDoorZD
import Derived.ChangeKeysEq
namespace Go.Proofs.YtpchdfdeomhakaaDoor
open Go.RowKit
set_option maxRecDepth 100000

/-- An array that is read and one that is written, through whatever keeps what is there. -/
structure E2 (w W : World) (a : List Int) : Prop where
  fr : Below w.heap.size w W
  pa : Arr W w.heap.size 65 (I64 a)
  pr : Arr W (w.heap.size + 1) 65 (I64 Z16)
theorem E2.go {w A B : World} {a : List Int} (h : E2 w A a) (hb : Below A.heap.size A B) : E2 w B a := ⟨h.fr.trans (hb.mono h.fr.size), h.pa.kept hb, h.pr.kept hb⟩
theorem E2.one {w W : World} {a : List Int} (h : E2 w W a) : W.rangeAt w.heap.size 0 (I64 a) := arr_range h.pa
theorem E2.new (w : World) (a : List Int) : E2 w ((w.alloc (.cells (I64 a).toArray 65)).alloc (.cells (I64 Z16).toArray 65)) a := by
  refine ⟨((Below.refl _ _).alloc (Nat.le_refl _) _).alloc (by simp) _, (Arr.new w (I64 a) _).alloc _, ?_⟩
  have := Arr.new (w.alloc (.cells (I64 a).toArray 65)) (I64 Z16) 65
  rw [World.size_alloc] at this
  exact this

theorem two_len : (lim 16 2).length = 16 := lim_len _ _
theorem tk_two : (tk16 PL (lim 16 2)).length = 16 ∧ Lm (tk16 PL (lim 16 2)) ∧ (val (tk16 PL (lim 16 2))).toNat = eInv := by
  have htk : tk16 PL (lim 16 2) = lim 16 (P25519 - 2) := by
    rw [tk16_lim PL_len two_len, PL_val, val_lim]
    rfl
  rw [htk]
  exact ⟨lim_len _ _, lim_lm _ _, by rw [val_lim]; rfl⟩

/-- The inverse. -/
def invF (a : List Int) : List Int := red (val a ^ eInv)

set_option maxHeartbeats 2000000 in
theorem specInv (a : List Int) (w : World) (ha : a.length = 16) (la : Lm a) :
    Calls Tryd.prog 80 #[.agg (I64 a).toArray] w fun e w' => e = .returned (.agg (I64 (invF a)).toArray) ∧ Below w.heap.size w w' := by
  obtain ⟨tl, tm, tv⟩ := tk_two
  obtain ⟨R, hR⟩ : ∃ R, R = invF a := ⟨_, rfl⟩
  have hRl : R.length = 16 := by rw [hR]; exact red_len _
  have HSM : Hid (∀ Z, Calls Tryd.prog 95 #[.int .i64 2] Z fun e w' => e = .returned (.agg (I64 (lim 16 2)).toArray) ∧ Below Z.heap.size Z w') := by
    unfold Hid; intro Z; exact specSmall 2 Z (by omega) (by omega)
  have HTK : Hid (∀ Z, Calls Tryd.prog 96 #[.agg (I64 PL).toArray, .agg (I64 (lim 16 2)).toArray] Z fun e w' => e = .returned (.agg (I64 (tk16 PL (lim 16 2))).toArray) ∧ Below Z.heap.size Z w') := by
    unfold Hid; intro Z; exact specTake PL _ Z PL_len two_len PL_lm (lim_lm _ _)
  have HPW : Hid (∀ Z, Calls Tryd.prog 97 #[.agg (I64 a).toArray, .agg (I64 (tk16 PL (lim 16 2))).toArray] Z fun e w' => e = .returned (.agg (I64 R).toArray) ∧ Below Z.heap.size Z w') := by
    unfold Hid; intro Z
    have := specPow a _ Z ha tl la tm
    rw [tv] at this
    rw [hR]
    exact this
  obtain ⟨D, hD⟩ : ∃ D, D = lim 16 2 := ⟨_, rfl⟩
  obtain ⟨T, hT⟩ : ∃ T, T = tk16 PL D := ⟨_, rfl⟩
  rw [← hD] at HSM HTK HPW
  rw [← hT] at HTK HPW
  obtain ⟨L, hL⟩ : ∃ L, L = PL := ⟨_, rfl⟩
  have HPR : Hid (∀ Z, Calls Tryd.prog 70 #[] Z fun e w' => e = .returned (.agg (I64 L).toArray) ∧ Below Z.heap.size Z w') := by
    unfold Hid; intro Z; rw [hL]; exact specPrime Z
  rw [← hL] at HTK
  rw [← hR]
  obtain ⟨A, hA⟩ : ∃ A, A = (I64 a).toArray := ⟨_, rfl⟩
  obtain ⟨W, hW⟩ : ∃ W, W = (w.alloc (.cells A 65)).alloc (.cells #[.int .i64 0, .int .i64 0, .int .i64 0, .int .i64 0, .int .i64 0, .int .i64 0, .int .i64 0, .int .i64 0, .int .i64 0, .int .i64 0, .int .i64 0, .int .i64 0, .int .i64 0, .int .i64 0, .int .i64 0, .int .i64 0] 65) := ⟨_, rfl⟩
  have EE : E2 w W a := by rw [hW, hA]; exact E2.new w a
  have EE' : E2 w W.drew a := EE.go (Below.refl _ _).drew
  rw [← hA]
  have hone : ∀ v ∈ I64 R, v.oneCell' = true := by
    intro v hv
    obtain ⟨x, _, rfl⟩ := List.mem_map.1 hv
    rfl
  have hu : Tryd.prog.underlying 65 = some (.array 16 3) := Tryd.underlying65
  have hia : (Tryd.prog.info? 65).map (·.size) = some (I64 a).length := by simpa [ha] using infoE
  have hir : (Tryd.prog.info? 65).map (·.size) = some (I64 R).length := by simpa [hRl] using infoE
  clear hA hR hD hT hL tl tm tv EE ha la
  go_enter Tryd.func80, Tryd.ntmps80
  go_wp2
  rw [← hW]
  clear hW
  go_region_held3 (fun W => W.rangeAt w.heap.size 0 (I64 a))
    (first
      | exact EE'.one
      | exact hS5)
    ((first
      | (go_at_call 70; refine (HPR.out _).mono ?_; rintro e w1 ⟨rfl, hb1⟩; replace EE' := EE'.go hb1; clear hb1)
      | (go_at_call 95; refine (HSM.out _).mono ?_; rintro e w2 ⟨rfl, hb2⟩; replace EE' := EE'.go hb2; clear hb2)
      | (go_at_call 96; refine (HTK.out _).mono ?_; rintro e w3 ⟨rfl, hb3⟩; replace EE' := EE'.go hb3; clear hb3)
      | (go_at_call 97; refine (HPW.out _).mono ?_; rintro e w4 ⟨rfl, hb4⟩; replace EE' := EE'.go hb4; clear hb4; have hth : w4.there (w.heap.size + 1) 0 (I64 R).length := (by simpa [hRl] using arr_there EE'.pr); have hS5 : (w4.setCells (w.heap.size + 1) 0 (I64 R)).rangeAt w.heap.size 0 (I64 a) := arr_range (Arr.setCellsO (by omega) _ _ EE'.pa))))
  all_goals
    have hA5 : Arr (w4.setCells (w.heap.size + 1) 0 (I64 R)) (w.heap.size + 1) 65 (I64 R) := Arr.setCells0 EE'.pr (by simp [hRl])
    have hB5 : Below w.heap.size w (w4.setCells (w.heap.size + 1) 0 (I64 R)) := setCells_below (by omega) _ _ EE'.fr
    go_wp2
    exact bodyPost_ret (results_cell_row rfl _ _ (w.heap.size + 1) 65 (I64 R).toArray (0, 0) _ rfl hA5 Tryd.underlying65 rfl (by simpa [hRl] using infoE)) rfl ⟨rfl, hB5⟩
end Go.Proofs.YtpchdfdeomhakaaDoor
namespace Go.Proofs.YtpchdfdeomhakaaDoor
open Go.RowKit
set_option maxRecDepth 100000

theorem i64_at (a : List Int) (i : Nat) (h : i < a.length) : (I64 a).toArray[i]? = some (.int .i64 (a.getD i 0)) := by
  rw [List.getElem?_toArray, List.getElem?_map, List.getElem?_eq_getElem h, List.getD, List.getElem?_eq_getElem h]
  rfl
theorem run_eqItems_i64 (a b : List Int) (d : Nat) (w : World) : ∀ is : List Nat, (∀ i ∈ is, i < a.length ∧ i < b.length) →
    (Op.eqItems (d + 1) 3 1 (I64 a).toArray (I64 b).toArray is).run Tryd.prog w = .ok (is.all fun i => a.getD i 0 == b.getD i 0) w
  | [], _ => by simp [Op.eqItems]
  | i :: is, h => by
    obtain ⟨h1, h2⟩ := h i (List.mem_cons_self)
    have ih := run_eqItems_i64 a b d w is (fun j hj => h j (List.mem_cons_of_mem _ hj))
    have hk : Tryd.prog.plainKey 3 = true := by kernel_rfl
    have p1 := run_part_plain (P := Tryd.prog) w hk (xs := (I64 a).toArray) (off := i * 1) (by rw [Nat.mul_one]; exact i64_at a i h1)
    have p2 := run_part_plain (P := Tryd.prog) w hk (xs := (I64 b).toArray) (off := i * 1) (by rw [Nat.mul_one]; exact i64_at b i h2)
    have p3 := run_equalIn_int (P := Tryd.prog) w d 3 .i64 .i64 (a.getD i 0) (b.getD i 0) Tryd.underlying3
    simp only [Op.eqItems, Sem.run_bind, p1, p2, p3, Result.andThen_ok, List.all_cons]
    cases hc : (a.getD i 0 == b.getD i 0) with
    | true =>
      simp only [Bool.not_true, Bool.false_eq_true, if_false, Bool.true_and]
      exact ih
    | false => rfl
theorem all_range {a b : List Int} (ha : a.length = 16) (hb : b.length = 16) : ((List.range 16).all fun i => a.getD i 0 == b.getD i 0) = decide (a = b) := by
  by_cases h : a = b
  · subst h; simp
  · rw [decide_eq_false h, ← Bool.not_eq_true]
    intro hc
    refine h (List.ext_getElem (by omega) fun i h1 h2 => ?_)
    have := List.all_eq_true.1 hc i (List.mem_range.2 (by omega))
    simpa [List.getD, h1, h2] using this
/-- Two arrays of sixteen ints are compared. -/
theorem run_eq16 (a b : List Int) (w : World) (ha : a.length = 16) (hb : b.length = 16) :
    (Op.equalIn 10000 65 (.agg (I64 a).toArray) (.agg (I64 b).toArray)).run Tryd.prog w = .ok (decide (a = b)) w := by
  obtain ⟨i, hi⟩ : ∃ i, Tryd.prog.info? 3 = some i := by
    cases h : Tryd.prog.info? 3 with
    | some i => exact ⟨i, rfl⟩
    | none => have := infoI; rw [h] at this; simp at this
  have hc : Tryd.prog.cellsOf 3 = 1 := by unfold Program.cellsOf; rw [infoI]; rfl
  rw [run_equalIn_array w 9999 _ _ Tryd.underlying65 hi, hc, run_eqItems_i64 a b 9998 w _ (fun i h => by have := List.mem_range.1 h; omega), all_range ha hb]

theorem val_zero {a : List Int} (ha : a.length = 16) (la : Lm a) : (a = Z16) ↔ val a = 0 := by
  constructor
  · rintro rfl; decide
  · intro h; exact val_inj la (by intro x hx; simp [Z16] at hx; omega) ha (by rw [h]; decide)

set_option maxHeartbeats 1000000 in
theorem specZero (a : List Int) (w : World) (ha : a.length = 16) :
    Calls Tryd.prog 79 #[.agg (I64 a).toArray] w fun e w' => e = .returned (.bool (decide (a = Z16))) ∧ Below w.heap.size w w' := by
  obtain ⟨r, hr⟩ : ∃ r, r = decide (a = Z16) := ⟨_, rfl⟩
  have hq : (Op.equalIn 10000 65 (.agg (I64 a).toArray) (.agg #[.int .i64 0, .int .i64 0, .int .i64 0, .int .i64 0, .int .i64 0, .int .i64 0, .int .i64 0, .int .i64 0, .int .i64 0, .int .i64 0, .int .i64 0, .int .i64 0, .int .i64 0, .int .i64 0, .int .i64 0, .int .i64 0])).run Tryd.prog (w.alloc (.cells (I64 a).toArray 65)) = .ok r (w.alloc (.cells (I64 a).toArray 65)) := by
    rw [hr]; exact run_eq16 a Z16 _ ha rfl
  rw [← hr]
  have g0 : Arr (w.alloc (.cells (I64 a).toArray 65)) w.heap.size 65 (I64 a) := Arr.new _ _ _
  have gB : Below w.heap.size w (w.alloc (.cells (I64 a).toArray 65)) := (Below.refl _ _).alloc (Nat.le_refl _) _
  clear hr
  go_enter Tryd.func79, Tryd.ntmps79
  go_wp2_with (refine wpList_load_row rfl 65 _ rfl w.heap.size rfl 65 (I64 a).toArray (0, 0) _ g0 Tryd.underlying65 rfl (by simpa [ha] using infoE) ?_)
  go_ret
  exact ⟨rfl, gB⟩

/-- The exponent of a root, in parts. -/
def E8 : List Int := [65534, 65535, 65535, 65535, 65535, 65535, 65535, 65535, 65535, 65535, 65535, 65535, 65535, 65535, 65535, 4095]
theorem E8_val : (val E8).toNat = eRt := by decide
theorem QL_val : val QL = (qN : Int) := by decide

set_option maxHeartbeats 2000000 in
theorem specEighth (w : World) :
    Calls Tryd.prog 98 #[] w fun e w' => e = .returned (.agg (I64 E8).toArray) ∧ Below w.heap.size w w' := by
  obtain ⟨W, hW⟩ : ∃ W, W = (w.alloc (.cells (I64 Z16).toArray 65)).alloc (.cells (I64 Z16).toArray 65) := ⟨_, rfl⟩
  have g0 : Arr W w.heap.size 65 (I64 Z16) := by rw [hW]; exact (Arr.new w (I64 Z16) _).alloc _
  have g1 : Arr W (w.heap.size + 1) 65 (I64 (List.replicate 0 65535 ++ Z16.drop 0)) := by
    rw [hW]
    have := Arr.new (w.alloc (.cells (I64 Z16).toArray 65)) (I64 Z16) 65
    rw [World.size_alloc] at this
    exact this
  have gB : Below w.heap.size w W := by rw [hW]; exact ((Below.refl _ _).alloc (Nat.le_refl _) _).alloc (by simp) _
  go_enter Tryd.func98, Tryd.ntmps98
  go_wp2
  go_loopw [2] (fun i wr => ∃ k : Nat, k ≤ 16 ∧ i = .int .i64 k ∧ Arr wr w.heap.size 65 (I64 Z16) ∧ Arr wr (w.heap.size + 1) 65 (I64 (List.replicate k 65535 ++ Z16.drop k)) ∧ Below w.heap.size w wr) (fun i _ => 16 - (intOf i).toNat)
  case atStart => exact ⟨0, by omega, rfl, hW ▸ g0, hW ▸ g1, hW ▸ gB⟩
  case round =>
    clear g0 g1 gB hW
    obtain ⟨k, hk, rfl, g0, g1, gB⟩ := hrel
    have hfl : (List.replicate k (65535 : Int)).length = k := by simp
    by_cases hlt : k < 16
    · obtain ⟨u, hu⟩ : ∃ u, wr.cell? ⟨w.heap.size + 1, k, none⟩ = some u := by
        rw [g1.cell k]
        exact ⟨_, List.getElem?_eq_getElem (by simp; omega)⟩
      have hfz := g1.frozen k
      have g1' := g1.set k (.int .i64 65535)
      rw [set_app hfl (show k < Z16.length from hlt), ← List.replicate_succ'] at g1'
      have g0' := g0.other ⟨w.heap.size + 1, k, none⟩ (.int .i64 65535) (by simp)
      have gB' := gB.setCell (p := ⟨w.heap.size + 1, k, none⟩) (by simp) (.int .i64 65535)
      have hk16 : (k : Int) < 16 := by omega
      have hk0 : (0 : Int) ≤ (k : Int) := by omega
      have H0 : Hid _ := g0'
      have H1 : Hid _ := g1'
      have HB : Hid _ := gB'
      clear g0' g1' gB' g0 g1 gB
      go_wp2
      go_roundw
      case rel => exact ⟨k + 1, by omega, by go_num, H0.out, H1.out, HB.out⟩
      case measure => simp [intOf]; omega
    · obtain rfl : k = 16 := by omega
      have c0 := g1.cell 0
      have f0 := g1.frozen 0
      have g2 := g1.set 0 (.int .i64 65534)
      have c15 := g2.cell 15
      have f15 := g2.frozen 15
      have g3 := g2.set 15 (.int .i64 4095)
      have gB2 := (gB.setCell (p := ⟨w.heap.size + 1, 0, none⟩) (by simp) (.int .i64 65534)).setCell (p := ⟨w.heap.size + 1, 15, none⟩) (by simp) (.int .i64 4095)
      have g4 := (g0.other ⟨w.heap.size + 1, 0, none⟩ (.int .i64 65534) (by simp)).other ⟨w.heap.size + 1, 15, none⟩ (.int .i64 4095) (by simp)
      replace g3 : Arr ((wr.setCell ⟨w.heap.size + 1, 0, none⟩ (.int .i64 65534)).setCell ⟨w.heap.size + 1, 15, none⟩ (.int .i64 4095)) (w.heap.size + 1) 65 (I64 E8) := g3
      replace c0 : wr.cell? ⟨w.heap.size + 1, 0, none⟩ = some (.int .i64 65535) := c0
      replace c15 : (wr.setCell ⟨w.heap.size + 1, 0, none⟩ (.int .i64 65534)).cell? ⟨w.heap.size + 1, 15, none⟩ = some (.int .i64 65535) := c15
      have g5 := g4.row (I64 E8)
      have gB5 := setRow_below gB2 w.heap.size (I64 E8).toArray (Nat.le_refl _)
      clear g0 g1 g2 gB gB2 hfl
      go_wp2_with (first
        | (refine wpList_load_row rfl 65 _ rfl (w.heap.size + 1) rfl 65 (I64 E8).toArray (0, 0) _ g3 Tryd.underlying65 rfl infoE ?_)
        | (refine wpList_store_row rfl 65 _ _ rfl w.heap.size (I64 E8).toArray rfl rfl 65 _ g4 infoE rfl (by simp [E8, Value.oneCell']) ?_))
      exact bodyPost_ret (results_cell_row rfl _ _ w.heap.size 65 (I64 E8).toArray (0, 0) _ rfl g5 Tryd.underlying65 rfl infoE) rfl ⟨rfl, gB5⟩
end Go.Proofs.YtpchdfdeomhakaaDoor
namespace Go.Proofs.YtpchdfdeomhakaaDoor
open Go.RowKit
set_option maxRecDepth 100000

/-- An argument and the result's cell, through whatever keeps what is there. -/
structure F2 (w W : World) (va : Value) : Prop where
  fr : Below w.heap.size w W
  pa : Arr W w.heap.size 25 [va]
  pr : Arr W (w.heap.size + 1) 25 [.slice none 0 0]
theorem F2.go {w A B : World} {va : Value} (h : F2 w A va) (hb : Below A.heap.size A B) : F2 w B va := ⟨h.fr.trans (hb.mono h.fr.size), h.pa.kept hb, h.pr.kept hb⟩
theorem F2.new (w : World) (va : Value) : F2 w ((w.alloc (.cells #[va] 25)).alloc (.cells #[.slice none 0 0] 25)) va := by
  refine ⟨((Below.refl _ _).alloc (Nat.le_refl _) _).alloc (by simp) _, (Arr.new w [va] _).alloc _, ?_⟩
  have := Arr.new (w.alloc (.cells #[va] 25)) [.slice none 0 0] 25
  rw [World.size_alloc] at this
  exact this

/-- Whether there is an inverse, and which. -/
def invOk (xs : List Int) : Bool := feOk xs && !decide (xs = Z16)
def invL (xs : List Int) : List Int := if invOk xs = true then invF xs else []

set_option maxHeartbeats 2000000 in
theorem specFeInv (a : Option Addr) (n c : Nat) (xs : List Int) (w : World) (hx : Is w a n c xs) :
    Calls Tryd.prog 41 #[.agg #[.slice a n c]] w fun e w' => ∃ v, e = .returned (.tuple #[v, .bool (invOk xs)]) ∧ FeIs w w' v (invL xs) ∧ Below w.heap.size w w' := by
  obtain ⟨L, hL⟩ : ∃ L, L = invL xs := ⟨_, rfl⟩
  obtain ⟨o, ho⟩ : ∃ o, o = invOk xs := ⟨_, rfl⟩
  rw [← hL, ← ho]
  have HO : Hid _ := ho
  have HLL : Hid _ := hL
  clear hL ho
  have EE : F2 w _ (.slice a n c) := F2.new w (.slice a n c)
  obtain ⟨W, hW⟩ : ∃ W, W = (w.alloc (.cells #[.slice a n c] 25)).alloc (.cells #[.slice none 0 0] 25) := ⟨_, rfl⟩
  rw [← hW] at EE
  obtain ⟨p, hp⟩ : ∃ p, p = feOk xs := ⟨_, rfl⟩
  have HP : Hid _ := hp
  clear hp
  go_enter Tryd.func41, Tryd.ntmps41
  go_wp2_with fail
  rw [← hW]
  clear hW
  refine (specFeOk a n c xs _ (hx.below EE.fr)).mono ?_
  rintro e w1 ⟨rfl, hb1⟩
  replace EE := EE.go hb1
  clear hb1
  rw [← HP.out]
  cases p with
  | false =>
    have hca : w1.cell? ⟨w.heap.size, 0, none⟩ = some (.slice a n c) := EE.pa.cell 0
    have hcr : w1.cell? ⟨w.heap.size + 1, 0, none⟩ = some (.slice none 0 0) := EE.pr.cell 0
    have hfr := EE.pr.frozen 0
    have HA : Hid _ := EE.pr.set 0 (.slice none 0 0)
    have HB : Hid _ := EE.fr.setCell (p := ⟨w.heap.size + 1, 0, none⟩) (by show w.heap.size ≤ w.heap.size + 1; omega) (.slice none 0 0)
    have HE : Hid (o = false ∧ L = []) := by
      have h1 : invOk xs = false := by unfold invOk; rw [← HP.out]; rfl
      exact ⟨by rw [HO.out, h1], by rw [HLL.out]; unfold invL; rw [h1]; rfl⟩
    clear EE HP HO HLL
    go_wp2
    exact bodyPost_ret (results_row_tmp (v := .bool false) (cs := [.slice none 0 0]) rfl rfl rfl HA.out Tryd.underlying25 rfl infoFe) rfl ⟨_, by rw [HE.out.1], HE.out.2 ▸ feIs_nil _ _, HB.out⟩
  | true =>
    obtain ⟨xl, xm, xv⟩ := (feOk_iff xs).1 HP.out.symm
    obtain rfl : n = 16 := by have := hx.2.1; omega
    have hca : w1.cell? ⟨w.heap.size, 0, none⟩ = some (.slice a 16 c) := EE.pa.cell 0
    go_wp2_with fail
    refine (specIn a c xs _ (hx.below EE.fr)).mono ?_
    rintro e w2 ⟨rfl, hb2⟩
    replace EE := EE.go hb2
    clear hb2 hca
    go_wp2_with fail
    refine (specZero xs _ xl).mono ?_
    rintro e w3 ⟨rfl, hb3⟩
    replace EE := EE.go hb3
    clear hb3
    obtain ⟨z, hz⟩ : ∃ z, z = decide (xs = Z16) := ⟨_, rfl⟩
    rw [← hz]
    have hoz : o = !z := by rw [HO.out, hz]; unfold invOk; rw [← HP.out]; rfl
    have HOZ : Hid _ := hoz
    have HLZ : Hid (L = if o = true then invF xs else []) := by unfold Hid; rw [HLL.out, HO.out]; rfl
    clear hz hoz HO HLL HP
    have hca : w3.cell? ⟨w.heap.size, 0, none⟩ = some (.slice a 16 c) := EE.pa.cell 0
    have hcr : w3.cell? ⟨w.heap.size + 1, 0, none⟩ = some (.slice none 0 0) := EE.pr.cell 0
    have hfr := EE.pr.frozen 0
    cases z with
    | true =>
      have HA : Hid _ := EE.pr.set 0 (.slice none 0 0)
      have HB : Hid _ := EE.fr.setCell (p := ⟨w.heap.size + 1, 0, none⟩) (by show w.heap.size ≤ w.heap.size + 1; omega) (.slice none 0 0)
      have HE : Hid (o = false ∧ L = []) := ⟨HOZ.out, by rw [HLZ.out, HOZ.out]; rfl⟩
      clear EE HOZ HLZ
      go_wp2
      exact bodyPost_ret (results_row_tmp (v := .bool false) (cs := [.slice none 0 0]) rfl rfl rfl HA.out Tryd.underlying25 rfl infoFe) rfl ⟨_, by rw [HE.out.1], HE.out.2 ▸ feIs_nil _ _, HB.out⟩
    | false =>
      have HE : Hid (o = true ∧ L = invF xs) := ⟨HOZ.out, by rw [HLZ.out, HOZ.out]; rfl⟩
      clear HOZ HLZ hcr hfr
      have hLl : L.length = 16 := by rw [HE.out.2]; exact red_len _
      have hLm : Lm L := by rw [HE.out.2]; exact red_lm _
      go_wp2_with fail
      refine (specIn a c xs _ (hx.below EE.fr)).mono ?_
      rintro e w4 ⟨rfl, hb4⟩
      replace EE := EE.go hb4
      clear hb4 hca
      go_wp2_with fail
      refine (specInv xs _ xl xm).mono ?_
      rintro e w5 ⟨rfl, hb5⟩
      replace EE := EE.go hb5
      clear hb5
      rw [← HE.out.2]
      go_wp2_with fail
      refine (specOut L _ hLl hLm).mono ?_
      rintro e w6 ⟨a', c', rfl, ho, hb6⟩
      have hlt := EE.pr.lt
      have hsz := EE.fr.size
      replace EE := EE.go hb6
      have HOW : Hid _ := own_base (own_other' ho ⟨w.heap.size + 1, 0, none⟩ (.slice a' 16 c') hlt) hsz
      have hcr : w6.cell? ⟨w.heap.size + 1, 0, none⟩ = some (.slice none 0 0) := EE.pr.cell 0
      have hfr := EE.pr.frozen 0
      have HA : Hid _ := EE.pr.set 0 (.slice a' 16 c')
      have HB : Hid _ := EE.fr.setCell (p := ⟨w.heap.size + 1, 0, none⟩) (by show w.heap.size ≤ w.heap.size + 1; omega) (.slice a' 16 c')
      clear EE ho hb6 hsz hlt
      go_wp2
      exact bodyPost_ret (results_row_tmp (v := .bool true) (cs := [.slice a' 16 c']) rfl rfl rfl HA.out Tryd.underlying25 rfl infoFe) rfl ⟨_, by rw [HE.out.1], feIs_16 hLl HOW.out, HB.out⟩
end Go.Proofs.YtpchdfdeomhakaaDoor

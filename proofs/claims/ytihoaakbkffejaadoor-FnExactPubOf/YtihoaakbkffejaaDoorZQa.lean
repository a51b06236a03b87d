/-
  What is proved here: plain mathematics on multipliers as the program makes them: a column put below a number, how often the order goes into it, columns from the highest on; no program is spoken of, no condition; a multiplier of the program is sixteen cells, as limbs are: how it is built and how its part is taken; the contract of the program's multiplierOf; where the program's variable holds the order; a multiplier out of the parts of a list: limbsOf and multiplierOf together; where the program's variable holds the order.
-/
import Derived.Test.YtihoaakbkffejaaDoorZJa
import Derived.Test.YtihoaakbkffejaaDoorZFyq
import Derived.Test.YtihoaakbkffejaaDoorZArr
import Derived.Test.YtihoaakbkffejaaDoorZUl
import Derived.Test.YtihoaakbkffejaaDoorZFw
import Derived.Test.YtihoaakbkffejaaDoorZFq
import Derived.Test.YtihoaakbkffejaaDoorZJhi
namespace Go.Proofs.YtihoaakbkffejaaDoor
open Go.RowKit
set_option maxRecDepth 100000

/-- A column below sixteen parts; the last two are one. -/
def mvd (c : Int) (n : List Int) : List Int := c :: (n.take 14 ++ [n.getD 14 0 + n.getD 15 0 * 65536])
theorem mvd_len {c : Int} {n : List Int} (h : n.length = 16) : (mvd c n).length = 16 := by simp [mvd, h]
theorem val_two {n : List Int} (h : n.length = 16) : val n = val (n.take 14) + 65536 ^ 14 * (n.getD 14 0 + 65536 * n.getD 15 0) := by
  have h2 : n = n.take 14 ++ [n.getD 14 0, n.getD 15 0] := by
    conv => lhs; rw [← List.take_append_drop 14 n, drop_one n 14 (by omega), drop_one n 15 (by omega), List.drop_eq_nil_of_le (by omega)]
  conv => lhs; rw [h2, val_append]
  have hl : (n.take 14).length = 14 := by simp [h]
  rw [hl]
  simp only [val]
  congr 2
  omega
theorem mvd_val {c : Int} {n : List Int} (h : n.length = 16) : val (mvd c n) = c + 65536 * val n := by
  have hl : (n.take 14).length = 14 := by simp [h]
  rw [val_two h]
  unfold mvd
  simp only [val, val_append, hl]
  omega
/-- Sixteen parts, without so many times the order's. -/
def ost (t : Int) (l : List Int) : List Int := List.zipWith (fun x y => x - t * y) l OL
theorem ost_len {t : Int} {l : List Int} (h : l.length = 16) : (ost t l).length = 16 := by simp [ost, h, OL_len]
theorem zipT_val (t : Int) : ∀ a b : List Int, a.length = b.length → val (List.zipWith (fun x y => x - t * y) a b) = val a - t * val b
  | [], [], _ => by simp [val]
  | x :: a, y :: b, h => by
    have := zipT_val t a b (by simpa using h)
    simp only [List.zipWith_cons_cons, val, this]
    rw [Int.mul_add, Int.mul_left_comm t 65536]
    omega
  | [], _ :: _, h => by simp at h
  | _ :: _, [], h => by simp at h
theorem ost_val {t : Int} {l : List Int} (h : l.length = 16) : val (ost t l) = val l - t * qO := by
  unfold ost
  rw [zipT_val t l OL (by rw [h, OL_len]), OL_val]
theorem crd_val {l : List Int} (hl : l.length = 16) : val (crd l) = val l := by
  rw [crd_eq hl, val_append, lim_len, val_lim]
  simp only [val]
  have := Int.emod_add_mul_ediv (val l) (65536 ^ 15)
  omega
theorem crd_last {l : List Int} (hl : l.length = 16) : (crd l).getD 15 0 = val l / 65536 ^ 15 := by
  rw [crd_eq hl]
  simp [List.getD, lim_len]
/-- How often the order is taken away. -/
def tms (V : Int) : Int := V / 65536 ^ 15 / 4096 - 1
/-- Numbers that may be settled: below 2^270. -/
def Sq (V : Int) : Prop := 0 ≤ V ∧ V < 1897137590064188545819787018382342682267975428761855001222473056385648716020711424
theorem tms_bd {V : Int} (h : Sq V) : -1 ≤ tms V ∧ tms V < 262144 := by
  unfold tms Sq at *
  rw [p240]
  omega
theorem tms_val {V : Int} (h : Sq V) : 0 ≤ V - tms V * qO ∧ V - tms V * qO < 2 * qO := by
  have hb := tms_bd h
  unfold tms Sq at *
  rw [p240] at *
  unfold qO
  omega
theorem crd_bdS {l : List Int} (hl : l.length = 16) (h : Sq (val l)) : ∀ x ∈ crd l, 0 ≤ x ∧ x < 1073741824 := by
  rw [crd_eq hl, p240]
  intro x hx
  rcases List.mem_append.1 hx with hx | hx
  · have := lim_lm 15 _ x hx; omega
  · simp only [List.mem_singleton] at hx
    subst hx
    unfold Sq at h
    omega
theorem ost_bd {l : List Int} {t : Int} (h0 : -1 ≤ t) (h1 : t < 262144) (h : ∀ x ∈ l, 0 ≤ x ∧ x < 1073741824) : ∀ x ∈ ost t l, -4611686018427387904 ≤ x ∧ x < 4611686018427387904 := by
  intro z hz
  obtain ⟨i, hi⟩ := List.mem_iff_getElem?.1 hz
  unfold ost at hi
  rw [List.getElem?_zipWith] at hi
  split at hi
  · rename_i p q h2 h3
    have h4 := h _ (List.mem_of_getElem? h2)
    have h5 := OL_lm _ (List.mem_of_getElem? h3)
    simp only [Option.some.injEq] at hi
    rw [← hi]
    have h6 : t * q ≤ 262144 * 65536 := by
      have a1 : t * q ≤ 262144 * q := Int.mul_le_mul_of_nonneg_right (by omega) h5.1
      omega
    have h7 : -1 * 65536 ≤ t * q := by
      have a1 : -1 * q ≤ t * q := Int.mul_le_mul_of_nonneg_right h0 h5.1
      omega
    omega
  · cases hi
/-- What is settled comes to the rest modulo the order. -/
theorem settled {l : List Int} (hl : l.length = 16) (h : Sq (val l)) :
    crd (ost (tms (val l)) (crd l)) = lim 16 (val l - tms (val l) * qO) ∧ lim 16 (if val l - tms (val l) * qO < qO then val l - tms (val l) * qO else val l - tms (val l) * qO - qO) = redO (val l) := by
  have hc := crd_len hl
  have hv : val (ost (tms (val l)) (crd l)) = val l - tms (val l) * qO := by rw [ost_val hc, crd_val hl]
  have hb := tms_val h
  refine ⟨?_, ?_⟩
  · rw [crd_lim (ost_len hc) (by rw [hv]; exact hb.1) (by rw [hv]; have := hb.2; unfold qO at this ⊢; omega), hv]
  · have hr : redO (val l - tms (val l) * qO) = redO (val l) := by
      unfold redO
      rw [Int.sub_mul_emod_self_right]
    have hls := lessO hb.1 hb.2
    rw [← hr]
    split
    · rename_i hlt; exact hls.1 hlt
    · rename_i hlt; exact hls.2 hlt
/-- The columns that are put below a number one by one. -/
def Cq (x : Int) : Prop := 0 ≤ x ∧ x < 2199023255552
theorem longer_sq {c : Int} {n : List Int} (hc : Cq c) (h : scOk n = true) : Sq (c + 65536 * val n) := by
  obtain ⟨h1, h2, h3⟩ := (scOk_iff n).1 h
  have h0 := val_nonneg (fun x hx => (h2 x hx).1)
  unfold Sq Cq at *
  unfold qO at h3
  omega
theorem sc_last {n : List Int} (h : scOk n = true) : 0 ≤ n.getD 15 0 ∧ n.getD 15 0 ≤ 4096 := by
  obtain ⟨h1, h2, h3⟩ := (scOk_iff n).1 h
  have h0 := val_nonneg (l := n.take 15) (fun x hx => (h2 x (List.mem_of_mem_take hx)).1)
  have hv := val_last h1
  have := getD_of (p := fun x => 0 ≤ x ∧ x < 65536) h2 (by omega) 15
  rw [hv, p240] at h3
  unfold qO at h3
  omega
theorem mvd_bd {c : Int} {n : List Int} (hc : Cq c) (h : scOk n = true) : ∀ x ∈ mvd c n, -4611686018427387904 ≤ x ∧ x < 4611686018427387904 := by
  obtain ⟨h1, h2, h3⟩ := (scOk_iff n).1 h
  have h15 := sc_last h
  have h14 := getD_of (p := fun x => 0 ≤ x ∧ x < 65536) h2 (by omega) 14
  intro x hx
  unfold mvd at hx
  unfold Cq at hc
  rcases List.mem_cons.1 hx with rfl | hx
  · omega
  · rcases List.mem_append.1 hx with hx | hx
    · have := h2 x (List.mem_of_mem_take hx); omega
    · simp only [List.mem_singleton] at hx
      omega
theorem longer_red (c v : Int) : redO (c + 65536 * val (redO v)) = redO (c + 65536 * v) := by
  rw [val_redO]
  unfold redO
  congr 1
  unfold qO
  omega
/-- All columns from the k-th on. -/
def clm (cs : List Int) (k : Nat) : List Int := redO (val (cs.drop k))
theorem clm_ok (cs : List Int) (k : Nat) : scOk (clm cs k) = true := redO_ok _
theorem clm_end (cs : List Int) : clm cs cs.length = Z16 := by unfold clm; rw [List.drop_length]; decide
theorem clm_step (cs : List Int) (k : Nat) (h : k < cs.length) : redO (cs.getD k 0 + 65536 * val (clm cs (k + 1))) = clm cs k := by
  unfold clm
  rw [longer_red, drop_one cs k h]
  rfl
theorem clm_zero (cs : List Int) : clm cs 0 = redO (val cs) := by unfold clm; rw [List.drop_zero]
theorem lm_cq {l : List Int} (h : Lm l) : ∀ x ∈ l, Cq x := by
  intro x hx
  have := h x hx
  unfold Cq
  omega
end Go.Proofs.YtihoaakbkffejaaDoor
namespace Go.Proofs.YtihoaakbkffejaaDoor
open Go.RowKit
set_option maxRecDepth 100000

theorem infoM : (Tryd.prog.info? 85).map (·.size) = some 16 := by kernel_rfl
theorem built_mu {l : List Int} (h : l.length = 16) : Tryd.prog.built 85 [(0, .agg (I64 l).toArray)] = some (I64 l).toArray := by
  obtain ⟨a0, a1, a2, a3, a4, a5, a6, a7, a8, a9, a10, a11, a12, a13, a14, a15, rfl⟩ := list16 h
  kernel_rfl
theorem build_mu {l : List Int} (h : l.length = 16) (w : World) : (Instr.build 85 #[(0, .agg (I64 l).toArray)]).run Tryd.prog w = .ok (.agg (I64 l).toArray) w := by
  obtain ⟨a0, a1, a2, a3, a4, a5, a6, a7, a8, a9, a10, a11, a12, a13, a14, a15, rfl⟩ := list16 h
  kernel_rfl
theorem wpList_mu {ops : Array Oper} {rest : List Oper} {o : Oper} {a : Act} {w : World} {Q : Exit → Act → World → Prop} (hg : o.guard = none) (x : Operand) (ho : o.op = .build 85 #[(0, x)]) (l : List Int) (hl : l.length = 16) (hx : a.eval x = .agg (I64 l).toArray)
    (h : wpList Tryd.prog ops Q rest (a.put o.dst (.agg (I64 l).toArray)) w) : wpList Tryd.prog ops Q (o :: rest) a w := by
  have hb : Tryd.prog.built 85 ((#[(0, x)] : Array (Nat × Operand)).map fun (i, x) => (i, a.eval x)).toList = some (I64 l).toArray := by
    simp only [List.map_toArray, List.map_cons, List.map_nil, hx]
    exact built_mu hl
  exact wpList_build hg 85 #[(0, x)] ho (by rw [hb]; rfl) (by rw [hb]; exact h)
theorem yieldsIf_mu {ops : Array Oper} {S : World → Prop} {op : Oper} {a : Act} (hw : Region.wanted op (yielded ops a.tmps) = true) (x : Operand) (ho : op.op = .build 85 #[(0, x)]) (l : List Int) (hl : l.length = 16) (hx : a.eval x = .agg (I64 l).toArray) : YieldsIf Tryd.prog ops S op (.agg (I64 l).toArray) a :=
  .inl ⟨hw, fun w _ => by
    unfold execOp
    simp only [ho, hx, Sem.run_bind, List.map_toArray, List.map_cons, List.map_nil, build_mu hl w, Sem.run_pure, Result.andThen_ok]⟩

/-- Whether limbs are a multiplier; it, or none. -/
def muB (n : List Int) (ok : Bool) : Bool := ok && decide (val n < qO)
def muL (n : List Int) (ok : Bool) : List Int := if muB n ok = true then n else Z16
/-- The limbs, the result's cell, and the program's order. -/
structure M2 (w W : World) (a : List Int) : Prop where
  fr : Below w.heap.size w W
  pa : Arr W w.heap.size 81 (I64 a)
  pr : Arr W (w.heap.size + 1) 85 (I64 Z16)
  vr : Vr W 5 (I64 OL)
  g0 : 5 < w.heap.size
theorem M2.go {w A B : World} {a : List Int} (h : M2 w A a) (hb : Below A.heap.size A B) : M2 w B a := ⟨h.fr.trans (hb.mono h.fr.size), h.pa.kept hb, h.pr.kept hb, h.vr.kept hb, h.g0⟩
theorem M2.all {w W : World} {a : List Int} (h : M2 w W a) : W.rangeAt w.heap.size 0 (I64 a) ∧ W.rangeAt 5 0 (I64 OL) := ⟨arr_range h.pa, vr_range h.vr⟩
theorem M2.new {w : World} (a : List Int) (h : Vr w 5 (I64 OL)) : M2 w ((w.alloc (.cells (I64 a).toArray 81)).alloc (.cells (I64 Z16).toArray 85)) a := by
  have hb : Below w.heap.size w ((w.alloc (.cells (I64 a).toArray 81)).alloc (.cells (I64 Z16).toArray 85)) := ((Below.refl _ _).alloc (Nat.le_refl _) _).alloc (by simp) _
  refine ⟨hb, (Arr.new w (I64 a) _).alloc _, ?_, h.kept hb, h.lt⟩
  have := Arr.new (w.alloc (.cells (I64 a).toArray 81)) (I64 Z16) 85
  rw [World.size_alloc] at this
  exact this
/-- The result is stored. -/
theorem M2.put {w W : World} {a R : List Int} (h : M2 w W a) (hR : R.length = 16) : Arr (W.setCells (w.heap.size + 1) 0 (I64 R)) (w.heap.size + 1) 85 (I64 R) ∧ Below w.heap.size w (W.setCells (w.heap.size + 1) 0 (I64 R)) ∧
    ((W.setCells (w.heap.size + 1) 0 (I64 R)).rangeAt w.heap.size 0 (I64 a) ∧ (W.setCells (w.heap.size + 1) 0 (I64 R)).rangeAt 5 0 (I64 OL)) ∧ W.there (w.heap.size + 1) 0 (I64 R).toArray.size := by
  have h0 : 5 ≠ w.heap.size + 1 := by have := h.g0; omega
  exact ⟨Arr.setCells0 h.pr (by simp [hR]), setCells_below (by omega) _ _ h.fr, ⟨arr_range (Arr.setCellsO (by omega) _ _ h.pa), vr_range (Vr.setCellsO h0 h.vr)⟩, by have := arr_there h.pr; simpa [hR] using this⟩

set_option maxHeartbeats 2000000 in
theorem implMuOf (n : List Int) (ok : Bool) (w : World) (hl : n.length = 16) (hm : Lm n) (hV : Vr w 5 (I64 OL)) :
    Calls Tryd.prog 50 #[.agg (I64 n).toArray, .bool ok] w fun e w' => e = .returned (.tuple #[.agg (I64 (muL n ok)).toArray, .bool (muB n ok)]) ∧ Below w.heap.size w w' := by
  obtain ⟨d, hd⟩ : ∃ d, d = decide (val n < qO) := ⟨_, rfl⟩
  have HBL : Hid (∀ Z, Calls Tryd.prog 71 #[.agg (I64 n).toArray, .agg (I64 OL).toArray] Z fun e w' => e = .returned (.bool d) ∧ Below Z.heap.size Z w') := by
    unfold Hid; intro Z
    have := implBelow n OL Z hl OL_len hm OL_lm
    rw [OL_val, ← hd] at this
    exact this
  obtain ⟨B, hB⟩ : ∃ B, B = muB n ok := ⟨_, rfl⟩
  obtain ⟨L, hL⟩ : ∃ L, L = muL n ok := ⟨_, rfl⟩
  have HB0 : Hid (ok = false → B = false) := by unfold Hid; intro h; rw [hB, h]; rfl
  have HB1 : Hid (ok = true → B = d) := by unfold Hid; intro h; rw [hB, h, hd]; rfl
  have HL0 : Hid (B = false → L = Z16) := by unfold Hid; intro h; rw [hL]; unfold muL; rw [← hB, h]; rfl
  have HL1 : Hid (B = true → L = n) := by unfold Hid; intro h; rw [hL]; unfold muL; rw [← hB, h]; rfl
  rw [← hB, ← hL]
  obtain ⟨W, hW⟩ : ∃ W, W = (w.alloc (.cells (I64 n).toArray 81)).alloc (.cells #[.int .i64 0, .int .i64 0, .int .i64 0, .int .i64 0, .int .i64 0, .int .i64 0, .int .i64 0, .int .i64 0, .int .i64 0, .int .i64 0, .int .i64 0, .int .i64 0, .int .i64 0, .int .i64 0, .int .i64 0, .int .i64 0] 85) := ⟨_, rfl⟩
  have EE : M2 w W n := by rw [hW]; exact M2.new n hV
  obtain ⟨A, hA⟩ : ∃ A, A = (I64 n).toArray := ⟨_, rfl⟩
  rw [← hA] at hW ⊢
  have hin : (Tryd.prog.info? 81).map (·.size) = some (I64 n).toArray.size := by simpa [hl] using infoL
  have hinm : (Tryd.prog.info? 85).map (·.size) = some (I64 n).toArray.size := by simpa [hl] using infoM
  have hip : (Tryd.prog.info? 81).map (·.size) = some (I64 OL).toArray.size := infoL
  clear hd hB hL hA hV hm
  cases ok with
  | false =>
    obtain rfl : B = false := HB0.out rfl
    have HE : Hid (L = Z16) := HL0.out rfl
    have h2 := EE.pr.row (I64 Z16)
    have HB : Hid _ := setRow_below EE.fr (w.heap.size + 1) (I64 Z16).toArray (by omega)
    have h1 := hW ▸ EE.pr
    rw [hW] at h2 HB
    clear HBL HB0 HB1 HL0 HL1 EE hW
    go_enter Tryd.func50, Tryd.ntmps50
    go_wp2_with (refine wpList_store_row rfl 85 _ _ rfl (w.heap.size + 1) (I64 Z16).toArray rfl rfl 85 _ h1 infoM rfl (by simp [Value.oneCell']) ?_)
    exact bodyPost_ret (results_row_tmp (v := .bool false) (cs := I64 Z16) rfl rfl rfl h2 Tryd.underlying85 rfl infoM) rfl ⟨by rw [HE.out], HB.out⟩
  | true =>
    obtain rfl : B = d := HB1.out rfl
    have E0 := hW ▸ EE
    obtain ⟨gt, gz, hg⟩ := E0.vr
    clear HB0 HB1
    go_enter Tryd.func50, Tryd.ntmps50
    go_wp2_with (first
      | (refine wpList_load_rowW rfl 81 _ rfl w.heap.size rfl 81 (I64 n).toArray (0, 0) _ E0.pa Tryd.underlying81 rfl hin ?_)
      | (refine wpList_load_rowW rfl 81 _ rfl 5 rfl gt (I64 OL).toArray gz _ hg Tryd.underlying81 rfl hip ?_))
    rw [← hW]
    clear hW E0 hg
    refine (HBL.out _).mono ?_
    rintro e w1 ⟨rfl, hb1⟩
    replace EE := EE.go hb1
    clear hb1 HBL
    cases B with
    | false =>
      have HE : Hid (L = Z16) := HL0.out rfl
      have h1 := EE.pr
      have h2 := EE.pr.row (I64 Z16)
      have HB : Hid _ := setRow_below EE.fr (w.heap.size + 1) (I64 Z16).toArray (by omega)
      clear HL0 HL1 EE
      go_wp2_with (refine wpList_store_row rfl 85 _ _ rfl (w.heap.size + 1) (I64 Z16).toArray rfl rfl 85 _ h1 infoM rfl (by simp [Value.oneCell']) ?_)
      exact bodyPost_ret (results_row_tmp (v := .bool false) (cs := I64 Z16) rfl rfl rfl h2 Tryd.underlying85 rfl infoM) rfl ⟨by rw [HE.out], HB.out⟩
    | true =>
      have HE : Hid (L = n) := HL1.out rfl
      have h0 := EE.pa
      have h1 := EE.pr
      have h2 := EE.pr.row (I64 n)
      have HB : Hid _ := setRow_below EE.fr (w.heap.size + 1) (I64 n).toArray (by omega)
      clear HL0 HL1 EE
      go_wp2_with (first
        | (refine wpList_load_row rfl 81 _ rfl w.heap.size rfl 81 (I64 n).toArray (0, 0) _ h0 Tryd.underlying81 rfl hin ?_)
        | (refine wpList_mu rfl _ rfl n hl rfl ?_)
        | (refine wpList_store_row rfl 85 _ _ rfl (w.heap.size + 1) (I64 n).toArray rfl rfl 85 _ h1 hinm (by simp [hl]) (by simp [Value.oneCell']) ?_))
      exact bodyPost_ret (results_row_tmp (v := .bool true) (cs := I64 n) rfl rfl rfl h2 Tryd.underlying85 rfl (by simpa [hl] using infoM)) rfl ⟨by rw [HE.out], HB.out⟩
end Go.Proofs.YtihoaakbkffejaaDoor
namespace Go.Proofs.YtihoaakbkffejaaDoor
open Go.RowKit
set_option maxRecDepth 100000

/-- A slice as a multiplier; it, or none. -/
def scL (xs : List Int) : List Int := if scOk xs = true then xs else Z16
theorem scL_len (xs : List Int) : (scL xs).length = 16 := by
  unfold scL
  split
  · rename_i h; exact ((scOk_iff xs).1 h).1
  · rfl
theorem lmL_lm (xs : List Int) : Lm (lmL xs) := by
  unfold lmL
  split
  · rename_i h; exact ((lmOk_iff xs).1 h).2
  · intro x hx
    have : x = 0 := by simpa using hx
    omega
theorem scOk_lm (l : List Int) : scOk l = (lmOk l && decide (val l < qO)) := rfl
theorem muB_sc (xs : List Int) : muB (lmL xs) (lmOk xs) = scOk xs := by
  unfold muB
  rw [scOk_lm]
  cases h : lmOk xs with
  | false => rfl
  | true =>
    have e : lmL xs = xs := by unfold lmL; rw [if_pos h]
    rw [e]
theorem muL_sc (xs : List Int) : muL (lmL xs) (lmOk xs) = scL xs := by
  unfold muL scL
  rw [muB_sc]
  cases h : scOk xs with
  | false => rfl
  | true =>
    have h2 : lmOk xs = true := by rw [scOk_lm] at h; simp at h; exact h.1
    unfold lmL
    rw [if_pos h2]
/-- multiplierOf of what limbsOf answers. -/
theorem implMuSc (xs : List Int) (w : World) (hV : Vr w 5 (I64 OL)) :
    Calls Tryd.prog 50 #[.agg (I64 (lmL xs)).toArray, .bool (lmOk xs)] w fun e w' => e = .returned (.tuple #[.agg (I64 (scL xs)).toArray, .bool (scOk xs)]) ∧ Below w.heap.size w w' := by
  have := implMuOf (lmL xs) (lmOk xs) w (lmL_len xs) (lmL_lm xs) hV
  rw [muB_sc, muL_sc] at this
  exact this
end Go.Proofs.YtihoaakbkffejaaDoor

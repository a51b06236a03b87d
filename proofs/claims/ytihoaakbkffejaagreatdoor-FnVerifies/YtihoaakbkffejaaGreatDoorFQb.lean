/-
  What is proved here: a multiplier of the program is sixteen cells, as limbs are: how it is; a multiplier out of the parts of a list: limbsOf and multiplierOf together; the contract of the program's PtMul; a multiplier is laid into a new cell.
-/
import Derived.Test.YtihoaakbkffejaaGreatDoorFJn
import Derived.Test.YtihoaakbkffejaaGreatDoorFFsc
import Derived.Test.YtihoaakbkffejaaGreatDoorFOha
import Derived.Test.YtihoaakbkffejaaGreatDoorFYe
import Derived.Test.YtihoaakbkffejaaGreatDoorFJg
import Derived.Test.YtihoaakbkffejaaGreatDoorFJio
import Derived.Test.YtihoaakbkffejaaGreatDoorFOm0
namespace Go.Proofs.YtihoaakbkffejaaGreatDoor
open Go.RowKit
set_option maxRecDepth 100000

theorem infoM : (Tryz.prog.info? 92).map (·.size) = some 16 := by kernel_rfl
theorem built_mu {l : List Int} (h : l.length = 16) : Tryz.prog.built 92 [(0, .agg (I64 l).toArray)] = some (I64 l).toArray := by
 obtain ⟨a0, a1, a2, a3, a4, a5, a6, a7, a8, a9, a10, a11, a12, a13, a14, a15, rfl⟩ := list16 h
 kernel_rfl
theorem build_mu {l : List Int} (h : l.length = 16) (w : World) : (Instr.build 92 #[(0, .agg (I64 l).toArray)]).run Tryz.prog w = .ok (.agg (I64 l).toArray) w := by
 obtain ⟨a0, a1, a2, a3, a4, a5, a6, a7, a8, a9, a10, a11, a12, a13, a14, a15, rfl⟩ := list16 h
 kernel_rfl
theorem wpList_mu {ops : Array Oper} {rest : List Oper} {o : Oper} {a : Act} {w : World} {Q : Exit → Act → World → Prop} (hg : o.guard = none) (x : Operand) (ho : o.op = .build 92 #[(0, x)]) (l : List Int) (hl : l.length = 16) (hx : a.eval x = .agg (I64 l).toArray)
  (h : wpList Tryz.prog ops Q rest (a.put o.dst (.agg (I64 l).toArray)) w) : wpList Tryz.prog ops Q (o :: rest) a w := by
 have hb : Tryz.prog.built 92 ((#[(0, x)] : Array (Nat × Operand)).map fun (i, x) => (i, a.eval x)).toList = some (I64 l).toArray := by
  simp only [List.map_toArray, List.map_cons, List.map_nil, hx]
  exact built_mu hl
 exact wpList_build hg 92 #[(0, x)] ho (by rw [hb]; rfl) (by rw [hb]; exact h)
theorem yieldsIf_mu {ops : Array Oper} {S : World → Prop} {op : Oper} {a : Act} (hw : Region.wanted op (yielded ops a.tmps) = true) (x : Operand) (ho : op.op = .build 92 #[(0, x)]) (l : List Int) (hl : l.length = 16) (hx : a.eval x = .agg (I64 l).toArray) : YieldsIf Tryz.prog ops S op (.agg (I64 l).toArray) a :=
 .inl ⟨hw, fun w _ => by
  unfold execOp
  simp only [ho, hx, Sem.run_bind, List.map_toArray, List.map_cons, List.map_nil, build_mu hl w, Sem.run_pure, Result.andThen_ok]⟩

def muB (n : List Int) (ok : Bool) : Bool := ok && decide (val n < qO)
def muL (n : List Int) (ok : Bool) : List Int := if muB n ok = true then n else Z16
theorem muL_len {n : List Int} {ok : Bool} (h : n.length = 16) : (muL n ok).length = 16 := by unfold muL; split <;> simp [h]

structure M2 (w W : World) (a : List Int) : Prop where
 fr : Below w.heap.size w W
 pa : Arr W w.heap.size 65 (I64 a)
 pr : Arr W (w.heap.size + 1) 92 (I64 Z16)
 vr : Vr W 6 (I64 OL)
 g0 : 6 < w.heap.size
theorem M2.go {w A B : World} {a : List Int} (h : M2 w A a) (hb : Below A.heap.size A B) : M2 w B a := ⟨h.fr.trans (hb.mono h.fr.size), h.pa.kept hb, h.pr.kept hb, h.vr.kept hb, h.g0⟩
theorem M2.all {w W : World} {a : List Int} (h : M2 w W a) : W.rangeAt w.heap.size 0 (I64 a) ∧ W.rangeAt 6 0 (I64 OL) := ⟨arr_range h.pa, vr_range h.vr⟩
theorem M2.new {w : World} (a : List Int) (h : Vr w 6 (I64 OL)) : M2 w ((w.alloc (.cells (I64 a).toArray 65)).alloc (.cells (I64 Z16).toArray 92)) a := by
 have hb : Below w.heap.size w ((w.alloc (.cells (I64 a).toArray 65)).alloc (.cells (I64 Z16).toArray 92)) := ((Below.refl _ _).alloc (Nat.le_refl _) _).alloc (by simp) _
 refine ⟨hb, (Arr.new w (I64 a) _).alloc _, ?_, h.kept hb, h.lt⟩
 have := Arr.new (w.alloc (.cells (I64 a).toArray 65)) (I64 Z16) 92
 rw [World.size_alloc] at this
 exact this
theorem M2.put {w W : World} {a R : List Int} (h : M2 w W a) (hR : R.length = 16) : Arr (W.setCells (w.heap.size + 1) 0 (I64 R)) (w.heap.size + 1) 92 (I64 R) ∧ Below w.heap.size w (W.setCells (w.heap.size + 1) 0 (I64 R)) ∧
  ((W.setCells (w.heap.size + 1) 0 (I64 R)).rangeAt w.heap.size 0 (I64 a) ∧ (W.setCells (w.heap.size + 1) 0 (I64 R)).rangeAt 6 0 (I64 OL)) ∧ W.there (w.heap.size + 1) 0 (I64 R).toArray.size := by
 have h0 : 6 ≠ w.heap.size + 1 := by have := h.g0; omega
 exact ⟨Arr.setCells0 h.pr (by simp [hR]), setCells_below (by omega) _ _ h.fr, ⟨arr_range (Arr.setCellsO (by omega) _ _ h.pa), vr_range (Vr.setCellsO h0 h.vr)⟩, by have := arr_there h.pr; simpa [hR] using this⟩

set_option maxHeartbeats 2000000 in
theorem implMuOf (n : List Int) (ok : Bool) (w : World) (hl : n.length = 16) (hm : Lm n) (hV : Vr w 6 (I64 OL)) :
  Calls Tryz.prog 58 #[.agg (I64 n).toArray, .bool ok] w fun e w' => e = .returned (.tuple #[.agg (I64 (muL n ok)).toArray, .bool (muB n ok)]) ∧ Below w.heap.size w w' := by
 obtain ⟨d, hd⟩ : ∃ d, d = decide (val n < qO) := ⟨_, rfl⟩
 have HBL : Hid (∀ Z, Calls Tryz.prog 97 #[.agg (I64 n).toArray, .agg (I64 OL).toArray] Z fun e w' => e = .returned (.bool d) ∧ Below Z.heap.size Z w') := by
  unfold Hid; intro Z
  have := implBelow n OL Z hl OL_len hm OL_lm
  rw [OL_val, ← hd] at this
  exact this
 obtain ⟨B, hB⟩ : ∃ B, B = muB n ok := ⟨_, rfl⟩
 obtain ⟨L, hL⟩ : ∃ L, L = muL n ok := ⟨_, rfl⟩
 have HB0 : Hid (ok = false → B = false) := by unfold Hid; intro h; rw [hB, h]; rfl
 have HB1 : Hid (ok = true → B = d) := by unfold Hid; intro h; rw [hB, h, hd]; rfl
 have HL0 : Hid (B = false → L = Z16) := by unfold Hid; intro h; rw [hL]; unfold muL; rw [← hB, h]; rfl
 have HL1 : Hid (B = true → L = n) := by unfold Hid; intro h; rw [hL]; unfold muL; rw [← hB, h]; rfl
 rw [← hB, ← hL]
 obtain ⟨W, hW⟩ : ∃ W, W = (w.alloc (.cells (I64 n).toArray 65)).alloc (.cells zV 92) := ⟨_, rfl⟩
 have EE : M2 w W n := by rw [hW]; exact M2.new n hV
 obtain ⟨A, hA⟩ : ∃ A, A = (I64 n).toArray := ⟨_, rfl⟩
 rw [← hA] at hW ⊢
 have hin : (Tryz.prog.info? 65).map (·.size) = some (I64 n).toArray.size := by simpa [hl] using infoL
 have hinm : (Tryz.prog.info? 92).map (·.size) = some (I64 n).toArray.size := by simpa [hl] using infoM
 have hip : (Tryz.prog.info? 65).map (·.size) = some (I64 OL).toArray.size := infoL
 clear hd hB hL hA hV hm
 cases ok with
 | false =>
  obtain rfl : B = false := HB0.out rfl
  have HE : Hid (L = Z16) := HL0.out rfl
  have h2 := EE.pr.row (I64 Z16)
  have HB : Hid _ := setRow_below EE.fr (w.heap.size + 1) (I64 Z16).toArray (by omega)
  have h1 := hW ▸ EE.pr
  rw [hW] at h2 HB
  clear HBL HB0 HB1 HL0 HL1 EE hW
  go_enter Tryz.func58, Tryz.ntmps58
  go_wp2_with (refine wpList_store_row rfl 92 _ _ rfl (w.heap.size + 1) (I64 Z16).toArray rfl rfl 92 _ h1 infoM rfl (by simp [Value.oneCell']) ?_)
  exact bodyPost_ret (results_row_tmp (v := .bool false) (cs := I64 Z16) rfl rfl rfl h2 Tryz.underlying92 rfl infoM) rfl ⟨by rw [HE.out], HB.out⟩
 | true =>
  obtain rfl : B = d := HB1.out rfl
  have E0 := hW ▸ EE
  obtain ⟨gt, gz, hg⟩ := E0.vr
  clear HB0 HB1
  go_enter Tryz.func58, Tryz.ntmps58
  go_wp2_with (first
   | (refine wpList_load_rowW rfl 65 _ rfl w.heap.size rfl 65 (I64 n).toArray (0, 0) _ E0.pa Tryz.underlying65 rfl hin ?_)
   | (refine wpList_load_rowW rfl 65 _ rfl 6 rfl gt (I64 OL).toArray gz _ hg Tryz.underlying65 rfl hip ?_))
  rw [← hW]
  clear hW E0 hg
  refine (HBL.out _).mono ?_
  rintro e w1 ⟨rfl, hb1⟩
  replace EE := EE.go hb1
  clear hb1 HBL
  cases B with
  | false =>
   have HE : Hid (L = Z16) := HL0.out rfl
   have h1 := EE.pr
   have h2 := EE.pr.row (I64 Z16)
   have HB : Hid _ := setRow_below EE.fr (w.heap.size + 1) (I64 Z16).toArray (by omega)
   clear HL0 HL1 EE
   go_wp2_with (refine wpList_store_row rfl 92 _ _ rfl (w.heap.size + 1) (I64 Z16).toArray rfl rfl 92 _ h1 infoM rfl (by simp [Value.oneCell']) ?_)
   exact bodyPost_ret (results_row_tmp (v := .bool false) (cs := I64 Z16) rfl rfl rfl h2 Tryz.underlying92 rfl infoM) rfl ⟨by rw [HE.out], HB.out⟩
  | true =>
   have HE : Hid (L = n) := HL1.out rfl
   have h0 := EE.pa
   have h1 := EE.pr
   have h2 := EE.pr.row (I64 n)
   have HB : Hid _ := setRow_below EE.fr (w.heap.size + 1) (I64 n).toArray (by omega)
   clear HL0 HL1 EE
   go_wp2_with (first
    | (refine wpList_load_row rfl 65 _ rfl w.heap.size rfl 65 (I64 n).toArray (0, 0) _ h0 Tryz.underlying65 rfl hin ?_)
    | (refine wpList_mu rfl _ rfl n hl rfl ?_)
    | (refine wpList_store_row rfl 92 _ _ rfl (w.heap.size + 1) (I64 n).toArray rfl rfl 92 _ h1 hinm (by simp [hl]) (by simp [Value.oneCell']) ?_))
   exact bodyPost_ret (results_row_tmp (v := .bool true) (cs := I64 n) rfl rfl rfl h2 Tryz.underlying92 rfl (by simpa [hl] using infoM)) rfl ⟨by rw [HE.out], HB.out⟩
def scL (xs : List Int) : List Int := if scOk xs = true then xs else Z16
theorem scL_len (xs : List Int) : (scL xs).length = 16 := by
 unfold scL
 split
 ·rename_i h; exact ((scOk_iff xs).1 h).1
 ·rfl
theorem lmL_lm (xs : List Int) : Lm (lmL xs) := by
 unfold lmL
 split
 ·rename_i h; exact ((lmOk_iff xs).1 h).2
 ·intro x hx
  have : x = 0 := by simpa using hx
  omega
theorem scOk_lm (l : List Int) : scOk l = (lmOk l && decide (val l < qO)) := rfl
theorem muB_sc (xs : List Int) : muB (lmL xs) (lmOk xs) = scOk xs := by
 unfold muB
 rw [scOk_lm]
 cases h : lmOk xs with
 | false => rfl
 | true =>
  have e : lmL xs = xs := by unfold lmL; rw [if_pos h]
  rw [e]
theorem muL_sc (xs : List Int) : muL (lmL xs) (lmOk xs) = scL xs := by
 unfold muL scL
 rw [muB_sc]
 cases h : scOk xs with
 | false => rfl
 | true =>
  have h2 : lmOk xs = true := by rw [scOk_lm] at h; simp at h; exact h.1
  unfold lmL
  rw [if_pos h2]
theorem implMuSc (xs : List Int) (w : World) (hV : Vr w 6 (I64 OL)) :
  Calls Tryz.prog 58 #[.agg (I64 (lmL xs)).toArray, .bool (lmOk xs)] w fun e w' => e = .returned (.tuple #[.agg (I64 (scL xs)).toArray, .bool (scOk xs)]) ∧ Below w.heap.size w w' := by
 have := implMuOf (lmL xs) (lmOk xs) w (lmL_len xs) (lmL_lm xs) hV
 rw [muB_sc, muL_sc] at this
 exact this
theorem qO_253 : qO < 2 ^ 253 := by decide
theorem sc_253 {ks : List Int} (h : scOk ks = true) : (val ks).toNat < 2 ^ 253 := by
 obtain ⟨_, h2, h3⟩ := (scOk_iff ks).1 h
 have h1 := val_nonneg (fun x hx => (h2 x hx).1)
 have h4 := qO_253
 have h5 : ((2 ^ 253 : Nat) : Int) = 2 ^ 253 := by norm_cast
 have : ((val ks).toNat : Int) < ((2 ^ 253 : Nat) : Int) := by rw [Int.toNat_of_nonneg h1, h5]; omega
 exact Int.ofNat_lt.1 this
theorem sc_laid_mu (w1 : World) (L : List Int) : Below w1.heap.size w1 ((w1.alloc (.cells zV 92)).setRow w1.heap.size (I64 L).toArray) ∧ Arr ((w1.alloc (.cells zV 92)).setRow w1.heap.size (I64 L).toArray) w1.heap.size 92 (I64 L) ∧ Arr (w1.alloc (.cells zV 92)) w1.heap.size 92 (I64 Z16) := by
 have q : Arr (w1.alloc (.cells zV 92)) w1.heap.size 92 (I64 Z16) := Arr.new w1 (I64 Z16) _
 exact ⟨setRow_below ((Below.refl _ _).alloc (Nat.le_refl _) _) _ _ (Nat.le_refl _), q.row _, q⟩

set_option maxHeartbeats 8000000 in
theorem implPtMul (a1 : Option Addr) (n1 c1 : Nat) (xs1 : List Int) (b1 : Option Addr) (m1 d1 : Nat) (ys1 : List Int) (ak : Option Addr) (nk ck : Nat) (ks : List Int) (w : World) (hx1 : Is w a1 n1 c1 xs1) (hy1 : Is w b1 m1 d1 ys1) (hk : Is w ak nk ck ks) (hV : Vr w 4 (I64 PL)) (hD : Vr w 5 (I64 DL)) (hO : Vr w 6 (I64 OL)) :
  Calls Tryz.prog 19 #[.agg #[.slice a1 n1 c1, .slice b1 m1 d1], .agg #[.slice ak nk ck]] w fun e w' => ∃ v, e = .returned (.tuple #[v, .bool (ptOk xs1 ys1 && scOk ks)]) ∧ PtT 65 w w' v (ptx (ptOk xs1 ys1 && scOk ks) (mul6 (mk6 xs1 ys1) (val ks).toNat)) (pty (ptOk xs1 ys1 && scOk ks) (mul6 (mk6 xs1 ys1) (val ks).toNat)) ∧ Below w.heap.size w w' := by
 obtain ⟨p, hp⟩ : ∃ p, p = ptOk xs1 ys1 := ⟨_, rfl⟩
 obtain ⟨L, hL⟩ : ∃ l, l = opL xs1 ys1 := ⟨_, rfl⟩
 obtain ⟨P, hP⟩ : ∃ P, P = mk6 xs1 ys1 := ⟨_, rfl⟩
 have HO1 : Hid (∀ Z, Below w.heap.size w Z → Vr Z 4 (I64 PL) → Vr Z 5 (I64 DL) → Calls Tryz.prog 41 #[.agg #[.slice a1 n1 c1, .slice b1 m1 d1]] Z fun e w' => e = .returned (.tuple #[.agg (I64 L).toArray, .bool p]) ∧ Below Z.heap.size Z w') := by
  unfold Hid; intro Z hZ h1 h2; rw [hL, hp]; exact implPtOpen a1 n1 c1 xs1 b1 m1 d1 ys1 Z (hx1.below hZ) (hy1.below hZ) h1 h2
 have nL : L.length = 64 := by rw [hL]; exact opL_len _ _
 have iL : (Tryz.prog.info? 67).map (·.size) = some (I64 L).toArray.size := by simpa [nL] using infoLp
 have HLL : Hid (p = true → L = P.cells ∧ P.Ok) := by
  unfold Hid; intro h; rw [hp] at h; obtain ⟨k1, k2, _⟩ := (ptOk_iff _ _).1 h; rw [hL, hP]; unfold opL; rw [if_pos h]; exact ⟨rfl, mk6_ok k1 k2⟩
 obtain ⟨q, hq⟩ : ∃ q, q = scOk ks := ⟨_, rfl⟩
 obtain ⟨Kk, hK⟩ : ∃ l, l = scL ks := ⟨_, rfl⟩
 have HLO : Hid (∀ Z, Below w.heap.size w Z → Calls Tryz.prog 64 #[.slice ak nk ck] Z fun e w' => e = .returned (.tuple #[.agg (I64 (lmL ks)).toArray, .bool (lmOk ks)]) ∧ Below Z.heap.size Z w') := by
  unfold Hid; intro Z hZ; exact implLimbsOf ak nk ck ks Z (hk.below hZ)
 have HMU : Hid (∀ Z, Vr Z 6 (I64 OL) → Calls Tryz.prog 58 #[.agg (I64 (lmL ks)).toArray, .bool (lmOk ks)] Z fun e w' => e = .returned (.tuple #[.agg (I64 Kk).toArray, .bool q]) ∧ Below Z.heap.size Z w') := by
  unfold Hid; intro Z hZ; rw [hK, hq]; exact implMuSc ks Z hZ
 have nK : Kk.length = 16 := by rw [hK]; exact scL_len ks
 have iK : (Tryz.prog.info? 92).map (·.size) = some (I64 Kk).toArray.size := by simpa [nK] using infoM
 have iiK : (Tryz.prog.info? 92).map (·.size) = some (I64 Kk).length := by simpa [nK] using infoM
 have HK : Hid (q = true → Kk = ks ∧ Lm ks) := by
  unfold Hid; intro h; rw [hq] at h; rw [hK]; unfold scL; rw [if_pos h]; exact ⟨rfl, ((scOk_iff ks).1 h).2.1⟩
 obtain ⟨x, hx⟩ : ∃ x, x = flx (mul6 (mk6 xs1 ys1) (val ks).toNat) := ⟨_, rfl⟩
 obtain ⟨y, hy⟩ : ∃ y, y = fly (mul6 (mk6 xs1 ys1) (val ks).toNat) := ⟨_, rfl⟩
 have nx : x.length = 16 := by rw [hx]; exact red_len _
 have ny : y.length = 16 := by rw [hy]; exact red_len _
 obtain ⟨Lx, hLx⟩ : ∃ l, l = ptx (ptOk xs1 ys1 && scOk ks) (mul6 (mk6 xs1 ys1) (val ks).toNat) := ⟨_, rfl⟩
 obtain ⟨Ly, hLy⟩ : ∃ l, l = pty (ptOk xs1 ys1 && scOk ks) (mul6 (mk6 xs1 ys1) (val ks).toNat) := ⟨_, rfl⟩
 have HN : Hid ((p && q) = false → ∀ {w' : World}, PtT 65 w w' (.agg #[.slice none 0 0, .slice none 0 0]) Lx Ly) := by
  unfold Hid; intro h w'; rw [hp, hq] at h; rw [hLx, hLy, h]; exact ptT_nil _ _ _
 have HY : Hid ((p && q) = true → ∀ (V V' : World) (v : Value), PtT 65 V V' v x y → PtT 65 V V' v Lx Ly) := by
  unfold Hid; intro h V V' v k; rw [hp, hq] at h; rw [hLx, hLy, h]; unfold ptx pty; rw [if_pos rfl, if_pos rfl, ← hx, ← hy]; exact k
 obtain ⟨R, hR⟩ : ∃ R, R = jul6 P (val ks).toNat := ⟨_, rfl⟩
 have hRo : R.Ok := by rw [hR]; exact jst_ok _ _ _
 have HX : Hid (p = true → q = true → x = flx R ∧ y = fly R) := by
  unfold Hid; intro h k; rw [hp] at h; rw [hq] at k; rw [hx, hy, hR, hP]; exact ⟨(mul_lists h _ (sc_253 k)).1.symm, (mul_lists h _ (sc_253 k)).2.symm⟩
 obtain ⟨O, hOe⟩ : ∃ P, P = mk6 (lim 16 0) (lim 16 1) := ⟨_, rfl⟩
 have hOo : O.Ok := by rw [hOe]; exact mk6_ok zero_ok one_ok
 have HZ : Hid (∀ Z, Vr Z 4 (I64 PL) → Calls Tryz.prog 67 #[.agg zV, .agg #[.int .i64 1, .int .i64 0, .int .i64 0, .int .i64 0, .int .i64 0, .int .i64 0, .int .i64 0, .int .i64 0, .int .i64 0, .int .i64 0, .int .i64 0, .int .i64 0, .int .i64 0, .int .i64 0, .int .i64 0, .int .i64 0]] Z fun e w' => e = .returned (.agg (I64 O.cells).toArray) ∧ Below Z.heap.size Z w') := by
  unfold Hid; intro Z hZ; have := implLongAt (lim 16 0) (lim 16 1) Z zero_ok one_ok hZ; rw [← hOe, zero_lim, one_lim] at this; exact this
 have HS : Hid (p = true → q = true → ∀ Z, Vr Z 4 (I64 PL) → Vr Z 5 (I64 DL) → Calls Tryz.prog 66 #[.iface 67 (.agg (I64 O.cells).toArray), .iface 67 (.agg (I64 P.cells).toArray), .agg (I64 Kk).toArray] Z fun e w' => e = .returned (.iface 67 (.agg (I64 R.cells).toArray)) ∧ Below Z.heap.size Z w') := by
  unfold Hid; intro h k Z hZ hZ2; obtain ⟨e1, e2⟩ := HK.out k; rw [hR, hOe, e1]; exact implMany P ks Z (HLL.out h).2 (by rw [← e1]; exact nK) e2 hZ hZ2
 have HC : Hid (p = true → q = true → ∀ Z, Vr Z 4 (I64 PL) → Calls Tryz.prog 65 #[.iface 67 (.agg (I64 R.cells).toArray)] Z fun e w' => ∃ v, e = .returned v ∧ PtT 65 Z w' v x y ∧ Below Z.heap.size Z w') := by
  unfold Hid; intro h k Z hZ
  rw [(HX.out h k).1, (HX.out h k).2]; exact implClosed R Z hRo hZ
 rw [← hLx, ← hLy, ← hp, ← hq]
 obtain ⟨lk, hlk⟩ : ∃ l, l = lmL ks := ⟨_, rfl⟩
 obtain ⟨bk, hbk⟩ : ∃ l, l = lmOk ks := ⟨_, rfl⟩
 rw [← hlk, ← hbk] at HLO HMU
 obtain ⟨W, hW⟩ : ∃ W, W = ((w.alloc (.cells #[.slice a1 n1 c1, .slice b1 m1 d1] 33)).alloc (.cells #[.slice ak nk ck] 41)).alloc (.cells #[.slice none 0 0, .slice none 0 0] 33) := ⟨_, rfl⟩
 have fr : Below w.heap.size w W := by rw [hW]; exact ((((Below.refl _ _).alloc (Nat.le_refl _) _).alloc (by simp) _).alloc (by simp; omega) _)
 have pa1 : Arr W w.heap.size 33 ([.slice a1 n1 c1, .slice b1 m1 d1]) := by
  rw [hW]
  have := ((Arr.new (w) ([.slice a1 n1 c1, .slice b1 m1 d1]) 33).alloc (.cells #[.slice ak nk ck] 41)).alloc (.cells #[.slice none 0 0, .slice none 0 0] 33)
  exact this
 have pak : Arr W (w.heap.size + 1) 41 ([.slice ak nk ck]) := by
  rw [hW]
  have := (Arr.new (w.alloc (.cells #[.slice a1 n1 c1, .slice b1 m1 d1] 33)) ([.slice ak nk ck]) 41).alloc (.cells #[.slice none 0 0, .slice none 0 0] 33)
  rw [World.size_alloc] at this
  exact this
 have pr : Arr W (w.heap.size + 2) 33 ([.slice none 0 0, .slice none 0 0]) := by
  rw [hW]
  have := Arr.new ((w.alloc (.cells #[.slice a1 n1 c1, .slice b1 m1 d1] 33)).alloc (.cells #[.slice ak nk ck] 41)) ([.slice none 0 0, .slice none 0 0]) 33
  rw [World.size_alloc, World.size_alloc] at this
  exact this
 have h0P := hV.lt
 have vP := hV.kept fr
 have h0D := hD.lt
 have vD := hD.kept fr
 have h0O := hO.lt
 have vO := hO.kept fr
 clear hV hD hO
 clear hx hy hLx hLy hR HX HK hp hq hL hP hK hOe hlk hbk hx1 hy1 hk
 go_enter Tryz.func19, Tryz.ntmps19
 go_upto_region 1 with fail
 rw [← hW]
 clear hW
 go_wp2_with (refine wpList_load_row rfl 33 _ rfl w.heap.size rfl 33 ([Value.slice a1 n1 c1,  Value.slice b1 m1 d1]).toArray (0, 0) _ pa1 Tryz.underlying33 rfl infoPt ?_)
 refine (HO1.out _ fr vP vD).mono ?_
 rintro e y1 ⟨rfl, hb1⟩
 replace fr := fr.trans (hb1.mono fr.size)
 replace pa1 := pa1.kept hb1
 replace pak := pak.kept hb1
 replace pr := pr.kept hb1
 replace vP := vP.kept hb1
 replace vD := vD.kept hb1
 replace vO := vO.kept hb1
 clear hb1
 have hXL : w.heap.size < y1.heap.size ∧ (w.heap.size + 1) < y1.heap.size ∧ (w.heap.size + 2) < y1.heap.size ∧ w.heap.size ≤ y1.heap.size := ⟨pa1.lt, pak.lt, pr.lt, fr.size⟩
 obtain ⟨bV, AL, q1⟩ := laid_lp y1 L
 replace fr := fr.trans (bV.mono fr.size)
 replace pa1 := pa1.kept bV
 replace pak := pak.kept bV
 replace pr := pr.kept bV
 replace vP := vP.kept bV
 replace vD := vD.kept bV
 replace vO := vO.kept bV
 go_upto_region 2 with (refine wpList_store_row rfl 67 _ _ rfl y1.heap.size (I64 L).toArray rfl rfl 67 _ q1 iL (by simp [nL]) (by simp [Value.oneCell']) ?_)
 obtain ⟨V2, hVV⟩ : ∃ V, V = (y1.alloc (.cells #[.int .i64 0, .int .i64 0, .int .i64 0, .int .i64 0, .int .i64 0, .int .i64 0, .int .i64 0, .int .i64 0, .int .i64 0, .int .i64 0, .int .i64 0, .int .i64 0, .int .i64 0, .int .i64 0, .int .i64 0, .int .i64 0, .int .i64 0, .int .i64 0, .int .i64 0, .int .i64 0, .int .i64 0, .int .i64 0, .int .i64 0, .int .i64 0, .int .i64 0, .int .i64 0, .int .i64 0, .int .i64 0, .int .i64 0, .int .i64 0, .int .i64 0, .int .i64 0, .int .i64 0, .int .i64 0, .int .i64 0, .int .i64 0, .int .i64 0, .int .i64 0, .int .i64 0, .int .i64 0, .int .i64 0, .int .i64 0, .int .i64 0, .int .i64 0, .int .i64 0, .int .i64 0, .int .i64 0, .int .i64 0, .int .i64 0, .int .i64 0, .int .i64 0, .int .i64 0, .int .i64 0, .int .i64 0, .int .i64 0, .int .i64 0, .int .i64 0, .int .i64 0, .int .i64 0, .int .i64 0, .int .i64 0, .int .i64 0, .int .i64 0, .int .i64 0] 67)).setRow y1.heap.size (I64 L).toArray := ⟨_, rfl⟩
 obtain ⟨XL, hE⟩ : ∃ E, E = y1.heap.size := ⟨_, rfl⟩
 rw [← hVV] at fr pa1 pak pr vP vD vO AL ⊢
 rw [← hE] at AL hXL ⊢
 clear hVV hE q1 bV
 have c0 : V2.cell? ⟨w.heap.size + 1, 0, none⟩ = some (.slice ak nk ck) := pak.cell 0
 go_wp2_with fail
 clear c0
 refine (HLO.out _ fr).mono ?_
 rintro e y3 ⟨rfl, hb3⟩
 replace fr := fr.trans (hb3.mono fr.size)
 replace pa1 := pa1.kept hb3
 replace pak := pak.kept hb3
 replace pr := pr.kept hb3
 replace vP := vP.kept hb3
 replace vD := vD.kept hb3
 replace vO := vO.kept hb3
 replace AL := AL.kept hb3
 clear hb3
 go_wp2_with fail
 refine (HMU.out _ vO).mono ?_
 rintro e y4 ⟨rfl, hb4⟩
 replace fr := fr.trans (hb4.mono fr.size)
 replace pa1 := pa1.kept hb4
 replace pak := pak.kept hb4
 replace pr := pr.kept hb4
 replace vP := vP.kept hb4
 replace vD := vD.kept hb4
 replace vO := vO.kept hb4
 replace AL := AL.kept hb4
 clear hb4
 have hXK : w.heap.size < y4.heap.size ∧ (w.heap.size + 1) < y4.heap.size ∧ (w.heap.size + 2) < y4.heap.size ∧ XL < y4.heap.size ∧ w.heap.size ≤ y4.heap.size := ⟨pa1.lt, pak.lt, pr.lt, AL.lt, fr.size⟩
 obtain ⟨bV, AK, q1⟩ := sc_laid_mu y4 Kk
 replace fr := fr.trans (bV.mono fr.size)
 replace pa1 := pa1.kept bV
 replace pak := pak.kept bV
 replace pr := pr.kept bV
 replace vP := vP.kept bV
 replace vD := vD.kept bV
 replace vO := vO.kept bV
 replace AL := AL.kept bV
 go_upto_region 3 with (refine wpList_store_row rfl 92 _ _ rfl y4.heap.size (I64 Kk).toArray rfl rfl 92 _ q1 iK (by simp [nK]) (by simp [Value.oneCell']) ?_)
 obtain ⟨V5, hVV⟩ : ∃ V, V = (y4.alloc (.cells zV 92)).setRow y4.heap.size (I64 Kk).toArray := ⟨_, rfl⟩
 obtain ⟨XK, hE⟩ : ∃ E, E = y4.heap.size := ⟨_, rfl⟩
 rw [← hVV] at fr pa1 pak pr vP vD vO AL AK ⊢
 rw [← hE] at AK hXK ⊢
 clear hVV hE q1 bV
 cases p with
 | false =>
  have h2 := pr.row ([.slice none 0 0, .slice none 0 0])
  have HB : Hid _ := setRow_below fr (w.heap.size + 2) ([.slice none 0 0, .slice none 0 0]).toArray (by omega)
  go_wp2_with (refine wpList_store_row rfl 33 _ _ rfl (w.heap.size + 2) ([Value.slice none 0 0,  Value.slice none 0 0]).toArray rfl rfl 33 _ pr infoPt rfl (by simp [Value.oneCell']) ?_)
  exact bodyPost_ret (results_row_tmp (v := .bool false) (cs := [.slice none 0 0, .slice none 0 0]) rfl rfl rfl h2 Tryz.underlying33 rfl infoPt) rfl ⟨_, rfl, HN.out (by simp), HB.out⟩
 | true =>
  cases q with
  | false =>
   have h2 := pr.row ([.slice none 0 0, .slice none 0 0])
   have HB : Hid _ := setRow_below fr (w.heap.size + 2) ([.slice none 0 0, .slice none 0 0]).toArray (by omega)
   go_wp2_with (refine wpList_store_row rfl 33 _ _ rfl (w.heap.size + 2) ([Value.slice none 0 0,  Value.slice none 0 0]).toArray rfl rfl 33 _ pr infoPt rfl (by simp [Value.oneCell']) ?_)
   exact bodyPost_ret (results_row_tmp (v := .bool false) (cs := [.slice none 0 0, .slice none 0 0]) rfl rfl rfl h2 Tryz.underlying33 rfl infoPt) rfl ⟨_, rfl, HN.out (by simp), HB.out⟩
  | true =>
   obtain ⟨eL, hPo⟩ := HLL.out (by simp)
   subst eL
   have hip := infoLpl hPo
   have huP : Tryz.prog.underlying 67 = some _ := Tryz.underlying67
   have huK : Tryz.prog.underlying 92 = some _ := Tryz.underlying92
   go_upto_region 5 with fail
   try simp only [Act.put]
   have bD : Below V5.heap.size V5 V5.drew := (Below.refl _ _).drew
   replace fr := fr.trans (bD.mono fr.size)
   replace pa1 := pa1.kept bD
   replace pak := pak.kept bD
   replace pr := pr.kept bD
   replace vP := vP.kept bD
   replace vD := vD.kept bD
   replace vO := vO.kept bD
   replace AL := AL.kept bD
   replace AK := AK.kept bD
   clear bD
   refine wp_region_held_drew (S := fun W => W.rangeAt XL 0 (I64 P.cells) ∧ W.rangeAt XK 0 (I64 Kk)) (by kernel_rfl) ⟨arr_range AL, arr_range AK⟩ (fun hHeld => ?_)
   obtain ⟨D6, hD⟩ : ∃ V, V = V5.drew := ⟨_, rfl⟩
   rw [← hD] at hHeld fr pa1 pak pr vP vD vO AL AK ⊢
   clear hD
   refine wpAnyH_take (i := 0) (oi := { dst := some 31, op := Op.build 65 #[], type := 65, pos := "l06_point.go:81", after := #[], guard := none }) (v := .agg zV) rfl (by kernel_rfl) (by kernel_rfl) (by kernel_rfl) (fun _ _ _ h => h) (.inl ⟨by rfl, fun _ _ => by kernel_rfl⟩) (by assumption) ?_
   simp only [aP]
   refine wpAnyH_take (i := 1) (oi := { dst := some 32, op := Op.build 65 #[(0, Operand.const (Value.int IntKind.i64 1))], type := 65, pos := "l06_point.go:81", after := #[], guard := none }) (v := .agg #[.int .i64 1, .int .i64 0, .int .i64 0, .int .i64 0, .int .i64 0, .int .i64 0, .int .i64 0, .int .i64 0, .int .i64 0, .int .i64 0, .int .i64 0, .int .i64 0, .int .i64 0, .int .i64 0, .int .i64 0, .int .i64 0]) rfl (by kernel_rfl) (by kernel_rfl) (by kernel_rfl) (fun _ _ _ h => h) (.inl ⟨by rfl, fun _ _ => by kernel_rfl⟩) (by assumption) ?_
   simp only [aP]
   refine wpAnyH_take (i := 4) (oi := { dst := some 35, op := Op.load 67 (Operand.tmp 6), type := 67, pos := "l06_point.go:81", after := #[], guard := none }) (v := _) rfl (by kernel_rfl) (by kernel_rfl) (by kernel_rfl) (fun _ _ _ h => h) (yieldsIf_load_mid (by rfl) _ _ rfl _ _ rfl (I64 P.cells) _ (fun _ h => h.1) huP rfl hip) (by assumption) ?_
   simp only [aP]
   refine wpAnyH_take (i := 5) (oi := { dst := some 36, op := Op.makeInterface 67 (Operand.tmp 35), type := 111, pos := "l06_point.go:81", after := #[{ on := 4, ground := Ground.data }], guard := none }) (v := .iface 67 (.agg (I64 P.cells).toArray)) rfl (by kernel_rfl) (by kernel_rfl) (by kernel_rfl) (fun _ _ _ h => h) (.inl ⟨by rfl, fun _ _ => by rfl⟩) (by assumption) ?_
   simp only [aP]
   refine wpAnyH_take (i := 6) (oi := { dst := some 37, op := Op.load 92 (Operand.tmp 8), type := 92, pos := "l06_point.go:81", after := #[], guard := none }) (v := _) rfl (by kernel_rfl) (by kernel_rfl) (by kernel_rfl) (fun _ _ _ h => h) (yieldsIf_load_mid (by rfl) _ _ rfl _ _ rfl (I64 Kk) _ (fun _ h => h.2) huK rfl iiK) (by assumption) ?_
   simp only [aP]
   refine wpAnyH_ready (rs := [2]) (by kernel_rfl) (by simp) (AllReadyH.cons (o := { dst := some 33, op := Op.call { callee := Callee.value (Operand.func 67), args := #[Operand.tmp 31, Operand.tmp 32], argTypes := #[65, 65] }, type := 67, pos := "l06_point.go:81", after := #[{ on := 0, ground := Ground.data }, { on := 1, ground := Ground.data }], guard := none }) rfl (fun K hK => ?_) AllReadyH.nil)
   go_simp
   refine (HZ.out _ vP).mono ?_
   rintro e y7 ⟨rfl, hb7⟩
   replace fr := fr.trans (hb7.mono fr.size)
   replace pa1 := pa1.kept hb7
   replace pak := pak.kept hb7
   replace pr := pr.kept hb7
   replace vP := vP.kept hb7
   replace vD := vD.kept hb7
   replace vO := vO.kept hb7
   replace AL := AL.kept hb7
   replace AK := AK.kept hb7
   clear hb7
   go_wp2_with fail
   refine hK.out _ _ ⟨arr_range AL, arr_range AK⟩ (fun hHeld => ?_)
   clear hK K
   refine wpAnyH_take (i := 3) (oi := { dst := some 34, op := Op.makeInterface 67 (Operand.tmp 33), type := 111, pos := "l06_point.go:81", after := #[{ on := 2, ground := Ground.data }], guard := none }) (v := .iface 67 (.agg (I64 O.cells).toArray)) rfl (by kernel_rfl) (by kernel_rfl) (by kernel_rfl) (fun _ _ _ h => h) (.inl ⟨by rfl, fun _ _ => by rfl⟩) (by assumption) ?_
   simp only [aP]
   refine wpAnyH_ready (rs := [7]) (by kernel_rfl) (by simp) (AllReadyH.cons (o := { dst := some 38, op := Op.call { callee := Callee.value (Operand.func 66), args := #[Operand.tmp 34, Operand.tmp 36, Operand.tmp 37], argTypes := #[111, 111, 92] }, type := 111, pos := "l06_point.go:81", after := #[{ on := 3, ground := Ground.data }, { on := 5, ground := Ground.data }, { on := 6, ground := Ground.data }, { on := 2, ground := Ground.chain }], guard := none }) rfl (fun K hK => ?_) AllReadyH.nil)
   go_simp
   refine (HS.out (by simp) (by simp) _ vP vD).mono ?_
   rintro e y8 ⟨rfl, hb8⟩
   replace fr := fr.trans (hb8.mono fr.size)
   replace pa1 := pa1.kept hb8
   replace pak := pak.kept hb8
   replace pr := pr.kept hb8
   replace vP := vP.kept hb8
   replace vD := vD.kept hb8
   replace vO := vO.kept hb8
   replace AL := AL.kept hb8
   replace AK := AK.kept hb8
   clear hb8
   go_wp2_with fail
   refine hK.out _ _ ⟨arr_range AL, arr_range AK⟩ (fun hHeld => ?_)
   clear hK K
   refine wpAnyH_ready (rs := [8]) (by kernel_rfl) (by simp) (AllReadyH.cons (o := { dst := some 39, op := Op.call { callee := Callee.value (Operand.func 65), args := #[Operand.tmp 38], argTypes := #[111] }, type := 33, pos := "l06_point.go:81", after := #[{ on := 7, ground := Ground.data }, { on := 7, ground := Ground.chain }], guard := none }) rfl (fun K hK => ?_) AllReadyH.nil)
   go_simp
   have hl : w.heap.size + 2 < y8.heap.size := pr.lt
   refine (HC.out (by simp) (by simp) _ vP).mono ?_
   rintro e y9 ⟨v, rfl, hpt, hb9⟩
   replace fr := fr.trans (hb9.mono fr.size)
   replace pa1 := pa1.kept hb9
   replace pak := pak.kept hb9
   replace pr := pr.kept hb9
   replace vP := vP.kept hb9
   replace vD := vD.kept hb9
   replace vO := vO.kept hb9
   replace AL := AL.kept hb9
   replace AK := AK.kept hb9
   clear hb9
   obtain ⟨aa, ca, ab, cb, rfl, oa, ob, hap⟩ := hpt
   rw [nx, ny] at hap ⊢
   rw [nx] at oa
   rw [ny] at ob
   have ia := In.of oa
   have ib := In.of ob
   go_wp2_with fail
   refine hK.out _ _ ⟨arr_range AL, arr_range AK⟩ (fun hHeld => ?_)
   clear hK K
   refine wpAnyH_ready (rs := [9]) (by kernel_rfl) (by simp) (AllReadyH.cons (o := { dst := none, op := Op.store 33 (Operand.tmp 4) (Operand.tmp 39), type := 0, pos := "l06_point.go:81", after := #[{ on := 8, ground := Ground.data }, { on := 8, ground := Ground.chain }, { on := 0, ground := Ground.phase }, { on := 1, ground := Ground.phase }, { on := 2, ground := Ground.phase }, { on := 3, ground := Ground.phase }, { on := 4, ground := Ground.phase }, { on := 5, ground := Ground.phase }, { on := 6, ground := Ground.phase }, { on := 7, ground := Ground.phase }, { on := 8, ground := Ground.phase }], guard := none }) rfl (fun K hK => ?_) AllReadyH.nil)
   rw [if_pos (by rfl)]
   refine wp_store_mid _ _ _ rfl _ _ ([.slice aa 16 ca, .slice ab 16 cb]).toArray rfl rfl (by have := arr_there pr; simpa using this) infoPt (all_oneCell_toArray (by simp [Value.oneCell'])) ?_
   simp only [Act.put]
   replace fr := bel_sc fr (w.heap.size + 2) ([.slice aa 16 ca, .slice ab 16 cb]) (by omega)
   replace pa1 := pa1.sc (w.heap.size + 2) ([.slice aa 16 ca, .slice ab 16 cb]) (by omega)
   replace pak := pak.sc (w.heap.size + 2) ([.slice aa 16 ca, .slice ab 16 cb]) (by omega)
   replace pr := pr.sc0 ([.slice aa 16 ca, .slice ab 16 cb]) (by simp)
   replace vP := vP.sc (w.heap.size + 2) ([.slice aa 16 ca, .slice ab 16 cb]) (by omega)
   replace vD := vD.sc (w.heap.size + 2) ([.slice aa 16 ca, .slice ab 16 cb]) (by omega)
   replace vO := vO.sc (w.heap.size + 2) ([.slice aa 16 ca, .slice ab 16 cb]) (by omega)
   replace AL := AL.sc (w.heap.size + 2) ([.slice aa 16 ca, .slice ab 16 cb]) (by omega)
   replace AK := AK.sc (w.heap.size + 2) ([.slice aa 16 ca, .slice ab 16 cb]) (by omega)
   replace oa : (y9.setCells (w.heap.size + 2) 0 ([.slice aa 16 ca, .slice ab 16 cb])).ownsRow y8.heap.size 65 1 (.slice aa 16 ca) 16 (I64 x) := own_setCells oa ia (.inl hl) _
   replace ob : (y9.setCells (w.heap.size + 2) 0 ([.slice aa 16 ca, .slice ab 16 cb])).ownsRow y8.heap.size 65 1 (.slice ab 16 cb) 16 (I64 y) := own_setCells ob ib (.inl hl) _
   obtain ⟨V10, hVe⟩ : ∃ V, V = y9.setCells (w.heap.size + 2) 0 ([.slice aa 16 ca, .slice ab 16 cb]) := ⟨_, rfl⟩
   rw [← hVe] at fr pa1 pak pr vP vD vO AL AK oa ob ⊢
   clear hVe
   refine hK.out _ _ ⟨arr_range AL, arr_range AK⟩ (fun hHeld => ?_)
   clear hK K
   refine wpAnyH_ready (rs := [10]) (by kernel_rfl) (by simp) (AllReadyH.cons (o := { dst := some 5, op := Op.assign (Operand.const (Value.bool true)), type := 4, pos := "l06_point.go:81", after := #[{ on := 9, ground := Ground.chain }, { on := 0, ground := Ground.phase }, { on := 1, ground := Ground.phase }, { on := 2, ground := Ground.phase }, { on := 3, ground := Ground.phase }, { on := 4, ground := Ground.phase }, { on := 5, ground := Ground.phase }, { on := 6, ground := Ground.phase }, { on := 7, ground := Ground.phase }, { on := 8, ground := Ground.phase }, { on := 9, ground := Ground.phase }], guard := none }) rfl (fun K hK => ?_) AllReadyH.nil)
   go_simp
   refine hK.out _ _ ⟨arr_range AL, arr_range AK⟩ (fun hHeld => ?_)
   clear hK K
   refine wpAnyH_done (by kernel_rfl) ?_ _
   go_wp2
   exact bodyPost_ret (results_row_tmp (v := .bool true) (cs := [.slice aa 16 ca, .slice ab 16 cb]) rfl rfl rfl pr Tryz.underlying33 rfl infoPt) rfl ⟨_, rfl, HY.out (by simp) _ _ _ (ptT_16 nx ny (own_base oa (by omega)) (own_base ob (by omega)) hap), fr⟩
theorem laid_mu (w1 : World) (L : List Int) : Below w1.heap.size w1 ((w1.alloc (.cells zV 92)).setRow w1.heap.size (I64 L).toArray) ∧ Arr ((w1.alloc (.cells zV 92)).setRow w1.heap.size (I64 L).toArray) w1.heap.size 92 (I64 L) ∧ Arr (w1.alloc (.cells zV 92)) w1.heap.size 92 (I64 Z16) := by
 have q : Arr (w1.alloc (.cells zV 92)) w1.heap.size 92 (I64 Z16) := Arr.new w1 (I64 Z16) _
 exact ⟨setRow_below ((Below.refl _ _).alloc (Nat.le_refl _) _) _ _ (Nat.le_refl _), q.row _, q⟩

end Go.Proofs.YtihoaakbkffejaaGreatDoor

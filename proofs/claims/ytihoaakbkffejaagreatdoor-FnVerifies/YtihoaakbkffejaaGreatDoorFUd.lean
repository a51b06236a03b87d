/-
  What is proved here: the contract of the specification's l6add: the sum of two points in the; how two arrays of sixteen are compared; the contract of the specification's l6on: whether two numbers of the field; what the lists of the specification stand for: numbers of the field.
-/
import Derived.Test.YtihoaakbkffejaaGreatDoorFUb
import Derived.Test.YtihoaakbkffejaaGreatDoorFTm
import Derived.Test.YtihoaakbkffejaaGreatDoorFFsc
import Derived.ChangeKeysEq
import Derived.Test.YtihoaakbkffejaaGreatDoorFFc
import Derived.Test.YtihoaakbkffejaaGreatDoorFYe
namespace Go.Proofs.YtihoaakbkffejaaGreatDoor
open Go.RowKit
set_option maxRecDepth 100000

theorem arr_ne {W : World} {g k : Nat} {t s : TypeId} {cs ds : List Value} (h : Arr W g t cs) (h' : Arr W k s ds) (hn : t ≠ s) : g ≠ k := by
 rintro rfl
 have e := Option.some.inj (h.symm.trans h')
 injection e with _ e2
 exact hn e2
theorem subC {x y : List Int} (hx : feOk x = true) (hy : feOk y = true) (Z : World) : Calls Tryz.prog 114 #[.agg (I64 x).toArray, .agg (I64 y).toArray] Z fun e w' => e = .returned (.agg (I64 (red (val x - val y))).toArray) ∧ Below Z.heap.size Z w' := specSub16 x y Z hx hy
theorem addC {x y : List Int} (hx : feOk x = true) (hy : feOk y = true) (Z : World) : Calls Tryz.prog 116 #[.agg (I64 x).toArray, .agg (I64 y).toArray] Z fun e w' => e = .returned (.agg (I64 (red (val x + val y))).toArray) ∧ Below Z.heap.size Z w' := specAdd16 x y Z (feOk_len hx) (feOk_len hy) (feOk_lm' hx) (feOk_lm' hy)
theorem mulC {x y : List Int} (hx : feOk x = true) (hy : feOk y = true) (Z : World) : Calls Tryz.prog 113 #[.agg (I64 x).toArray, .agg (I64 y).toArray] Z fun e w' => e = .returned (.agg (I64 (red (val x * val y))).toArray) ∧ Below Z.heap.size Z w' := specMul16 x y Z (feOk_len hx) (feOk_len hy) (feOk_lm' hx) (feOk_lm' hy)

set_option maxHeartbeats 8000000 in
theorem spec6add (P Q : E4) (w : World) (hP : P.Ok) (hQ : Q.Ok) :
  Calls Tryz.prog 75 #[.agg (I64 P.cells).toArray, .agg (I64 Q.cells).toArray] w fun e w' => e = .returned (.agg (I64 (add6 P Q).cells).toArray) ∧ Below w.heap.size w w' := by
 obtain ⟨ls1, es1⟩ : ∃ x, x = red (val P.b - val P.a) := ⟨_, rfl⟩
 have ks1 : feOk ls1 = true := by rw [es1]; exact ok_red _
 obtain ⟨ls2, es2⟩ : ∃ x, x = red (val Q.b - val Q.a) := ⟨_, rfl⟩
 have ks2 : feOk ls2 = true := by rw [es2]; exact ok_red _
 obtain ⟨la, ea⟩ : ∃ x, x = red (val ls1 * val ls2) := ⟨_, rfl⟩
 have ka : feOk la = true := by rw [ea]; exact ok_red _
 obtain ⟨ls3, es3⟩ : ∃ x, x = red (val P.b + val P.a) := ⟨_, rfl⟩
 have ks3 : feOk ls3 = true := by rw [es3]; exact ok_red _
 obtain ⟨ls4, es4⟩ : ∃ x, x = red (val Q.b + val Q.a) := ⟨_, rfl⟩
 have ks4 : feOk ls4 = true := by rw [es4]; exact ok_red _
 obtain ⟨lb, eb⟩ : ∃ x, x = red (val ls3 * val ls4) := ⟨_, rfl⟩
 have kb : feOk lb = true := by rw [eb]; exact ok_red _
 obtain ⟨ls5, es5⟩ : ∃ x, x = red (val P.t * val Q.t) := ⟨_, rfl⟩
 have ks5 : feOk ls5 = true := by rw [es5]; exact ok_red _
 obtain ⟨ls6, es6⟩ : ∃ x, x = red (val DL + val DL) := ⟨_, rfl⟩
 have ks6 : feOk ls6 = true := by rw [es6]; exact ok_red _
 obtain ⟨lc, ec⟩ : ∃ x, x = red (val ls5 * val ls6) := ⟨_, rfl⟩
 have kc : feOk lc = true := by rw [ec]; exact ok_red _
 obtain ⟨ls7, es7⟩ : ∃ x, x = red (val Q.c + val Q.c) := ⟨_, rfl⟩
 have ks7 : feOk ls7 = true := by rw [es7]; exact ok_red _
 obtain ⟨ld, ed⟩ : ∃ x, x = red (val P.c * val ls7) := ⟨_, rfl⟩
 have kd : feOk ld = true := by rw [ed]; exact ok_red _
 obtain ⟨le, ee⟩ : ∃ x, x = red (val lb - val la) := ⟨_, rfl⟩
 have ke : feOk le = true := by rw [ee]; exact ok_red _
 obtain ⟨lf, ef⟩ : ∃ x, x = red (val ld - val lc) := ⟨_, rfl⟩
 have kf : feOk lf = true := by rw [ef]; exact ok_red _
 obtain ⟨lg, eg⟩ : ∃ x, x = red (val ld + val lc) := ⟨_, rfl⟩
 have kg : feOk lg = true := by rw [eg]; exact ok_red _
 obtain ⟨lh, eh⟩ : ∃ x, x = red (val lb + val la) := ⟨_, rfl⟩
 have kh : feOk lh = true := by rw [eh]; exact ok_red _
 have Hs1 : Hid (∀ Z, Calls Tryz.prog 114 #[.agg (I64 P.b).toArray, .agg (I64 P.a).toArray] Z fun e w' => e = .returned (.agg (I64 ls1).toArray) ∧ Below Z.heap.size Z w') := by
  unfold Hid; intro Z; rw [es1]; exact subC hP.b hP.a Z
 have Hs2 : Hid (∀ Z, Calls Tryz.prog 114 #[.agg (I64 Q.b).toArray, .agg (I64 Q.a).toArray] Z fun e w' => e = .returned (.agg (I64 ls2).toArray) ∧ Below Z.heap.size Z w') := by
  unfold Hid; intro Z; rw [es2]; exact subC hQ.b hQ.a Z
 have Ha : Hid (∀ Z, Calls Tryz.prog 113 #[.agg (I64 ls1).toArray, .agg (I64 ls2).toArray] Z fun e w' => e = .returned (.agg (I64 la).toArray) ∧ Below Z.heap.size Z w') := by
  unfold Hid; intro Z; rw [ea]; exact mulC ks1 ks2 Z
 have Hs3 : Hid (∀ Z, Calls Tryz.prog 116 #[.agg (I64 P.b).toArray, .agg (I64 P.a).toArray] Z fun e w' => e = .returned (.agg (I64 ls3).toArray) ∧ Below Z.heap.size Z w') := by
  unfold Hid; intro Z; rw [es3]; exact addC hP.b hP.a Z
 have Hs4 : Hid (∀ Z, Calls Tryz.prog 116 #[.agg (I64 Q.b).toArray, .agg (I64 Q.a).toArray] Z fun e w' => e = .returned (.agg (I64 ls4).toArray) ∧ Below Z.heap.size Z w') := by
  unfold Hid; intro Z; rw [es4]; exact addC hQ.b hQ.a Z
 have Hb : Hid (∀ Z, Calls Tryz.prog 113 #[.agg (I64 ls3).toArray, .agg (I64 ls4).toArray] Z fun e w' => e = .returned (.agg (I64 lb).toArray) ∧ Below Z.heap.size Z w') := by
  unfold Hid; intro Z; rw [eb]; exact mulC ks3 ks4 Z
 have Hs5 : Hid (∀ Z, Calls Tryz.prog 113 #[.agg (I64 P.t).toArray, .agg (I64 Q.t).toArray] Z fun e w' => e = .returned (.agg (I64 ls5).toArray) ∧ Below Z.heap.size Z w') := by
  unfold Hid; intro Z; rw [es5]; exact mulC hP.t hQ.t Z
 have Hs6 : Hid (∀ Z, Calls Tryz.prog 116 #[.agg (I64 DL).toArray, .agg (I64 DL).toArray] Z fun e w' => e = .returned (.agg (I64 ls6).toArray) ∧ Below Z.heap.size Z w') := by
  unfold Hid; intro Z; rw [es6]; exact addC DL_ok DL_ok Z
 have Hc : Hid (∀ Z, Calls Tryz.prog 113 #[.agg (I64 ls5).toArray, .agg (I64 ls6).toArray] Z fun e w' => e = .returned (.agg (I64 lc).toArray) ∧ Below Z.heap.size Z w') := by
  unfold Hid; intro Z; rw [ec]; exact mulC ks5 ks6 Z
 have Hs7 : Hid (∀ Z, Calls Tryz.prog 116 #[.agg (I64 Q.c).toArray, .agg (I64 Q.c).toArray] Z fun e w' => e = .returned (.agg (I64 ls7).toArray) ∧ Below Z.heap.size Z w') := by
  unfold Hid; intro Z; rw [es7]; exact addC hQ.c hQ.c Z
 have Hd : Hid (∀ Z, Calls Tryz.prog 113 #[.agg (I64 P.c).toArray, .agg (I64 ls7).toArray] Z fun e w' => e = .returned (.agg (I64 ld).toArray) ∧ Below Z.heap.size Z w') := by
  unfold Hid; intro Z; rw [ed]; exact mulC hP.c ks7 Z
 have He : Hid (∀ Z, Calls Tryz.prog 114 #[.agg (I64 lb).toArray, .agg (I64 la).toArray] Z fun e w' => e = .returned (.agg (I64 le).toArray) ∧ Below Z.heap.size Z w') := by
  unfold Hid; intro Z; rw [ee]; exact subC kb ka Z
 have Hf : Hid (∀ Z, Calls Tryz.prog 114 #[.agg (I64 ld).toArray, .agg (I64 lc).toArray] Z fun e w' => e = .returned (.agg (I64 lf).toArray) ∧ Below Z.heap.size Z w') := by
  unfold Hid; intro Z; rw [ef]; exact subC kd kc Z
 have Hg : Hid (∀ Z, Calls Tryz.prog 116 #[.agg (I64 ld).toArray, .agg (I64 lc).toArray] Z fun e w' => e = .returned (.agg (I64 lg).toArray) ∧ Below Z.heap.size Z w') := by
  unfold Hid; intro Z; rw [eg]; exact addC kd kc Z
 have Hh : Hid (∀ Z, Calls Tryz.prog 116 #[.agg (I64 lb).toArray, .agg (I64 la).toArray] Z fun e w' => e = .returned (.agg (I64 lh).toArray) ∧ Below Z.heap.size Z w') := by
  unfold Hid; intro Z; rw [eh]; exact addC kb ka Z
 have HD : Hid (∀ Z, Calls Tryz.prog 117 #[] Z fun e w' => e = .returned (.agg (I64 DL).toArray) ∧ Below Z.heap.size Z w') := by
  unfold Hid; intro Z; exact spec6d Z
 obtain ⟨R, hR⟩ : ∃ R, R = add6 P Q := ⟨_, rfl⟩
 have hRo : R.Ok := by rw [hR]; exact add6_ok P Q
 have hRl := E4.len hRo
 have ra : red (val le * val lf) = R.a := by simp only [hR, add6, es3, es4, es2, ed, ef, ea, ec, ee, es1, es6, eb, es5, es7]
 have HRa : Hid (∀ Z, Calls Tryz.prog 113 #[.agg (I64 le).toArray, .agg (I64 lf).toArray] Z fun e w' => e = .returned (.agg (I64 R.a).toArray) ∧ Below Z.heap.size Z w') := by
  unfold Hid; intro Z; rw [← ra]; exact mulC ke kf Z
 have rb : red (val lg * val lh) = R.b := by simp only [hR, add6, es3, es4, es2, eg, ea, eh, ec, es1, es6, ed, eb, es5, es7]
 have HRb : Hid (∀ Z, Calls Tryz.prog 113 #[.agg (I64 lg).toArray, .agg (I64 lh).toArray] Z fun e w' => e = .returned (.agg (I64 R.b).toArray) ∧ Below Z.heap.size Z w') := by
  unfold Hid; intro Z; rw [← rb]; exact mulC kg kh Z
 have rc : red (val lf * val lg) = R.c := by simp only [hR, add6, ef, eg, ec, es6, ed, es5, es7]
 have HRc : Hid (∀ Z, Calls Tryz.prog 113 #[.agg (I64 lf).toArray, .agg (I64 lg).toArray] Z fun e w' => e = .returned (.agg (I64 R.c).toArray) ∧ Below Z.heap.size Z w') := by
  unfold Hid; intro Z; rw [← rc]; exact mulC kf kg Z
 have rt : red (val le * val lh) = R.t := by simp only [hR, add6, es3, es4, es2, ea, eh, ee, es1, eb]
 have HRt : Hid (∀ Z, Calls Tryz.prog 113 #[.agg (I64 le).toArray, .agg (I64 lh).toArray] Z fun e w' => e = .returned (.agg (I64 R.t).toArray) ∧ Below Z.heap.size Z w') := by
  unfold Hid; intro Z; rw [← rt]; exact mulC ke kh Z
 rw [← hR]
 have iis1 := infoEl ks1
 have js1 := infoE' ks1
 have ns1 := feOk_len ks1
 have us1 := one_lm ls1
 have iis2 := infoEl ks2
 have js2 := infoE' ks2
 have ns2 := feOk_len ks2
 have us2 := one_lm ls2
 have iia := infoEl ka
 have ja := infoE' ka
 have na := feOk_len ka
 have ua := one_lm la
 have iis3 := infoEl ks3
 have js3 := infoE' ks3
 have ns3 := feOk_len ks3
 have us3 := one_lm ls3
 have iis4 := infoEl ks4
 have js4 := infoE' ks4
 have ns4 := feOk_len ks4
 have us4 := one_lm ls4
 have iib := infoEl kb
 have jb := infoE' kb
 have nb := feOk_len kb
 have ub := one_lm lb
 have iis5 := infoEl ks5
 have js5 := infoE' ks5
 have ns5 := feOk_len ks5
 have us5 := one_lm ls5
 have iis6 := infoEl ks6
 have js6 := infoE' ks6
 have ns6 := feOk_len ks6
 have us6 := one_lm ls6
 have iic := infoEl kc
 have jc := infoE' kc
 have nc := feOk_len kc
 have uc := one_lm lc
 have iis7 := infoEl ks7
 have js7 := infoE' ks7
 have ns7 := feOk_len ks7
 have us7 := one_lm ls7
 have iid := infoEl kd
 have jd := infoE' kd
 have nd := feOk_len kd
 have ud := one_lm ld
 have iie := infoEl ke
 have je := infoE' ke
 have ne := feOk_len ke
 have ue := one_lm le
 have iif := infoEl kf
 have jf := infoE' kf
 have nf := feOk_len kf
 have uf := one_lm lf
 have iig := infoEl kg
 have jg := infoE' kg
 have ng := feOk_len kg
 have ug := one_lm lg
 have iih := infoEl kh
 have jh := infoE' kh
 have nh := feOk_len kh
 have uh := one_lm lh
 have iPa := infoEl hP.a
 have iQa := infoEl hQ.a
 have iPb := infoEl hP.b
 have iQb := infoEl hQ.b
 have iPc := infoEl hP.c
 have iQc := infoEl hQ.c
 have iPt := infoEl hP.t
 have iQt := infoEl hQ.t
 have hip := infoP' hRo
 have hone := one_lm R.cells
 have hu : Tryz.prog.underlying 80 = some (.array 16 3) := Tryz.underlying80
 obtain ⟨A, hA⟩ : ∃ A, A = (I64 P.cells).toArray := ⟨_, rfl⟩
 obtain ⟨B, hB⟩ : ∃ B, B = (I64 Q.cells).toArray := ⟨_, rfl⟩
 obtain ⟨W, hW⟩ : ∃ W, W = ((w.alloc (.cells A 86)).alloc (.cells B 86)).alloc (.cells #[.int .i64 0, .int .i64 0, .int .i64 0, .int .i64 0, .int .i64 0, .int .i64 0, .int .i64 0, .int .i64 0, .int .i64 0, .int .i64 0, .int .i64 0, .int .i64 0, .int .i64 0, .int .i64 0, .int .i64 0, .int .i64 0, .int .i64 0, .int .i64 0, .int .i64 0, .int .i64 0, .int .i64 0, .int .i64 0, .int .i64 0, .int .i64 0, .int .i64 0, .int .i64 0, .int .i64 0, .int .i64 0, .int .i64 0, .int .i64 0, .int .i64 0, .int .i64 0, .int .i64 0, .int .i64 0, .int .i64 0, .int .i64 0, .int .i64 0, .int .i64 0, .int .i64 0, .int .i64 0, .int .i64 0, .int .i64 0, .int .i64 0, .int .i64 0, .int .i64 0, .int .i64 0, .int .i64 0, .int .i64 0, .int .i64 0, .int .i64 0, .int .i64 0, .int .i64 0, .int .i64 0, .int .i64 0, .int .i64 0, .int .i64 0, .int .i64 0, .int .i64 0, .int .i64 0, .int .i64 0, .int .i64 0, .int .i64 0, .int .i64 0, .int .i64 0] 86) := ⟨_, rfl⟩
 have fr : Below w.heap.size w W := by rw [hW]; exact (((Below.refl _ _).alloc (Nat.le_refl _) _).alloc (by simp) _).alloc (by simp; omega) _
 have pa : Arr W w.heap.size 86 (I64 P.cells) := by rw [hW, hA]; exact ((Arr.new w (I64 P.cells) _).alloc _).alloc _
 have pb : Arr W (w.heap.size + 1) 86 (I64 Q.cells) := by
  rw [hW, hB]
  have := (Arr.new (w.alloc (.cells A 86)) (I64 Q.cells) 86).alloc (.cells (I64 Z64).toArray 86)
  rw [World.size_alloc] at this
  exact this
 have pr : Arr W (w.heap.size + 2) 86 (I64 Z64) := by
  rw [hW]
  have := Arr.new ((w.alloc (.cells A 86)).alloc (.cells B 86)) (I64 Z64) 86
  rw [World.size_alloc, World.size_alloc] at this
  exact this
 rw [← hA, ← hB]
 clear hA hB hR es1 es2 ea es3 es4 eb es5 es6 ec es7 ed ee ef eg eh ra rb rc rt ks1 ks2 ka ks3 ks4 kb ks5 ks6 kc ks7 kd ke kf kg kh
 go_enter Tryz.func75, Tryz.ntmps75
 go_wp2
 rw [← hW]
 clear hW
 try simp only [Act.put]
 refine tame [kc 13 (.pointer (some ⟨w.heap.size, 16, none⟩)), kc 14 (.agg (I64 P.b).toArray), kc 15 (.pointer (some ⟨w.heap.size, 0, none⟩)), kc 16 (.agg (I64 P.a).toArray), kc 17 (.agg (I64 ls1).toArray), kc 18 (.pointer (some ⟨w.heap.size + 1, 16, none⟩)), kc 19 (.agg (I64 Q.b).toArray), kc 20 (.pointer (some ⟨w.heap.size + 1, 0, none⟩)), kc 21 (.agg (I64 Q.a).toArray), kc 22 (.agg (I64 ls2).toArray), kc 23 (.agg (I64 la).toArray), ka 5 80 (I64 Z16)] 12 (by kernel_rfl) (by kernel_rfl) (by kernel_rfl) (by repeat' first | exact trivial | apply kc_keeps | apply ka_keeps | constructor) 1 (by kernel_rfl) (fun vv1 ll1 hh1 y b => ?_) (fun vv1 ll1 hh1 y b F iv ap => ?_)
 ·skip
  replace fr := fr.trans (b.mono fr.size)
  replace pa := pa.kept b
  replace pb := pb.kept b
  replace pr := pr.kept b
  exact ⟨tp (by kernel_rfl),
   tl (E4.rb hP pa) iPb hu (by kernel_rfl),
   tp (by kernel_rfl),
   tl (E4.ra pa) iPa hu (by kernel_rfl),
   tc (Hs1.out _) (by kernel_rfl),
   tp (by kernel_rfl),
   tl (E4.rb hQ pb) iQb hu (by kernel_rfl),
   tp (by kernel_rfl),
   tl (E4.ra pb) iQa hu (by kernel_rfl),
   tc (Hs2.out _) (by kernel_rfl),
   tc (Ha.out _) (by kernel_rfl),
   ta (by kernel_rfl), trivial⟩
 obtain ⟨y1, hy⟩ : ∃ z, z = y := ⟨_, rfl⟩
 rw [← hy] at b F iv ⊢
 clear hy
 have oq : w.heap.size < W.heap.size ∧ (w.heap.size + 1) < W.heap.size ∧ (w.heap.size + 2) < W.heap.size ∧ w.heap.size ≤ W.heap.size := ⟨pa.lt, pb.lt, pr.lt, fr.size⟩
 replace fr := fr.trans (b.mono fr.size)
 replace pa := pa.kept b
 replace pb := pb.kept b
 replace pr := pr.kept b
 obtain ⟨-, -, -, -, -, -, -, -, -, -, -, ⟨Aa, -⟩, -⟩ := F
 have iXa := iv 11 (by decide)
 have lXa := Aa.lt
 refine st_row (i := 12) (by kernel_rfl) rfl rfl rfl rfl Aa (by kernel_rfl) (by kernel_rfl) (by simp [na]) ja ua ?_
 replace fr := bel_sc fr (ll1 11) (I64 la) (by omega)
 replace pa := pa.sc (ll1 11) (I64 la) (by omega)
 replace pb := pb.sc (ll1 11) (I64 la) (by omega)
 replace pr := pr.sc (ll1 11) (I64 la) (by omega)
 replace Aa := Aa.sc0 (I64 la) (by simp [na])
 obtain ⟨V2, hVe⟩ : ∃ V, V = y1.setCells (ll1 11) 0 (I64 la) := ⟨_, rfl⟩
 rw [← hVe] at fr pa pb pr Aa ⊢
 clear hVe
 refine wpAny_done (by kernel_rfl) ?_ _
 simp only [fillK, putT, List.setIfInBounds_toArray, List.set_cons_zero, List.set_cons_succ]
 generalize ll1 11 = Xa at *
 clear iv ap b oq
 go_wp2
 try simp only [Act.put]
 refine tame [kc 24 (.pointer (some ⟨w.heap.size, 16, none⟩)), kc 25 (.agg (I64 P.b).toArray), kc 26 (.pointer (some ⟨w.heap.size, 0, none⟩)), kc 27 (.agg (I64 P.a).toArray), kc 28 (.agg (I64 ls3).toArray), kc 29 (.pointer (some ⟨w.heap.size + 1, 16, none⟩)), kc 30 (.agg (I64 Q.b).toArray), kc 31 (.pointer (some ⟨w.heap.size + 1, 0, none⟩)), kc 32 (.agg (I64 Q.a).toArray), kc 33 (.agg (I64 ls4).toArray), kc 34 (.agg (I64 lb).toArray), ka 6 80 (I64 Z16)] 12 (by kernel_rfl) (by kernel_rfl) (by kernel_rfl) (by repeat' first | exact trivial | apply kc_keeps | apply ka_keeps | constructor) 1 (by kernel_rfl) (fun vv2 ll2 hh2 y b => ?_) (fun vv2 ll2 hh2 y b F iv ap => ?_)
 ·skip
  replace fr := fr.trans (b.mono fr.size)
  replace pa := pa.kept b
  replace pb := pb.kept b
  replace pr := pr.kept b
  replace Aa := Aa.kept b
  exact ⟨tp (by kernel_rfl),
   tl (E4.rb hP pa) iPb hu (by kernel_rfl),
   tp (by kernel_rfl),
   tl (E4.ra pa) iPa hu (by kernel_rfl),
   tc (Hs3.out _) (by kernel_rfl),
   tp (by kernel_rfl),
   tl (E4.rb hQ pb) iQb hu (by kernel_rfl),
   tp (by kernel_rfl),
   tl (E4.ra pb) iQa hu (by kernel_rfl),
   tc (Hs4.out _) (by kernel_rfl),
   tc (Hb.out _) (by kernel_rfl),
   ta (by kernel_rfl), trivial⟩
 obtain ⟨y3, hy⟩ : ∃ z, z = y := ⟨_, rfl⟩
 rw [← hy] at b F iv ⊢
 clear hy
 have oq : w.heap.size < V2.heap.size ∧ (w.heap.size + 1) < V2.heap.size ∧ (w.heap.size + 2) < V2.heap.size ∧ Xa < V2.heap.size ∧ w.heap.size ≤ V2.heap.size := ⟨pa.lt, pb.lt, pr.lt, Aa.lt, fr.size⟩
 replace fr := fr.trans (b.mono fr.size)
 replace pa := pa.kept b
 replace pb := pb.kept b
 replace pr := pr.kept b
 replace Aa := Aa.kept b
 obtain ⟨-, -, -, -, -, -, -, -, -, -, -, ⟨Ab, -⟩, -⟩ := F
 have iXb := iv 11 (by decide)
 have lXb := Ab.lt
 refine st_row (i := 12) (by kernel_rfl) rfl rfl rfl rfl Ab (by kernel_rfl) (by kernel_rfl) (by simp [nb]) jb ub ?_
 replace fr := bel_sc fr (ll2 11) (I64 lb) (by omega)
 replace pa := pa.sc (ll2 11) (I64 lb) (by omega)
 replace pb := pb.sc (ll2 11) (I64 lb) (by omega)
 replace pr := pr.sc (ll2 11) (I64 lb) (by omega)
 replace Aa := Aa.sc (ll2 11) (I64 lb) (by omega)
 replace Ab := Ab.sc0 (I64 lb) (by simp [nb])
 obtain ⟨V4, hVe⟩ : ∃ V, V = y3.setCells (ll2 11) 0 (I64 lb) := ⟨_, rfl⟩
 rw [← hVe] at fr pa pb pr Aa Ab ⊢
 clear hVe
 refine wpAny_done (by kernel_rfl) ?_ _
 simp only [fillK, putT, List.setIfInBounds_toArray, List.set_cons_zero, List.set_cons_succ]
 generalize ll2 11 = Xb at *
 clear iv ap b oq
 go_wp2_with (first
   | (refine wpList_load_mid rfl 80 _ rfl w.heap.size 48 rfl (I64 P.t) _ (E4.rt hP pa) Tryz.underlying80 rfl iPt ?_)
   | (refine wpList_load_mid rfl 80 _ rfl (w.heap.size + 1) 48 rfl (I64 Q.t) _ (E4.rt hQ pb) Tryz.underlying80 rfl iQt ?_))
 refine (Hs5.out _).mono ?_
 rintro e y5 ⟨rfl, hb5⟩
 replace fr := fr.trans (hb5.mono fr.size)
 replace pa := pa.kept hb5
 replace pb := pb.kept hb5
 replace pr := pr.kept hb5
 replace Aa := Aa.kept hb5
 replace Ab := Ab.kept hb5
 clear hb5
 go_wp2_with fail
 refine (HD.out _).mono ?_
 rintro e y6 ⟨rfl, hb6⟩
 replace fr := fr.trans (hb6.mono fr.size)
 replace pa := pa.kept hb6
 replace pb := pb.kept hb6
 replace pr := pr.kept hb6
 replace Aa := Aa.kept hb6
 replace Ab := Ab.kept hb6
 clear hb6
 go_wp2_with fail
 refine (HD.out _).mono ?_
 rintro e y7 ⟨rfl, hb7⟩
 replace fr := fr.trans (hb7.mono fr.size)
 replace pa := pa.kept hb7
 replace pb := pb.kept hb7
 replace pr := pr.kept hb7
 replace Aa := Aa.kept hb7
 replace Ab := Ab.kept hb7
 clear hb7
 go_wp2_with fail
 refine (Hs6.out _).mono ?_
 rintro e y8 ⟨rfl, hb8⟩
 replace fr := fr.trans (hb8.mono fr.size)
 replace pa := pa.kept hb8
 replace pb := pb.kept hb8
 replace pr := pr.kept hb8
 replace Aa := Aa.kept hb8
 replace Ab := Ab.kept hb8
 clear hb8
 go_wp2_with fail
 refine (Hc.out _).mono ?_
 rintro e y9 ⟨rfl, hb9⟩
 replace fr := fr.trans (hb9.mono fr.size)
 replace pa := pa.kept hb9
 replace pb := pb.kept hb9
 replace pr := pr.kept hb9
 replace Aa := Aa.kept hb9
 replace Ab := Ab.kept hb9
 clear hb9
 obtain ⟨bV, Ac, q1⟩ := laid_e y9 lc
 replace fr := fr.trans (bV.mono fr.size)
 replace pa := pa.kept bV
 replace pb := pb.kept bV
 replace pr := pr.kept bV
 replace Aa := Aa.kept bV
 replace Ab := Ab.kept bV
 go_wp2_with (refine wpList_store_row rfl 80 _ _ rfl y9.heap.size (I64 lc).toArray rfl rfl 80 _ q1 jc (by simp [nc]) (by simp [Value.oneCell']) ?_)
 obtain ⟨V10, hVV⟩ : ∃ V, V = (y9.alloc (.cells zV 80)).setRow y9.heap.size (I64 lc).toArray := ⟨_, rfl⟩
 obtain ⟨Xc, hE⟩ : ∃ E, E = y9.heap.size := ⟨_, rfl⟩
 rw [← hVV] at fr pa pb pr Aa Ab Ac ⊢
 rw [← hE] at Ac ⊢
 clear hVV hE q1 bV
 try simp only [Act.put]
 refine tame [kc 44 (.pointer (some ⟨w.heap.size, 32, none⟩)), kc 45 (.agg (I64 P.c).toArray), kc 46 (.pointer (some ⟨w.heap.size + 1, 32, none⟩)), kc 47 (.agg (I64 Q.c).toArray), kc 48 (.pointer (some ⟨w.heap.size + 1, 32, none⟩)), kc 49 (.agg (I64 Q.c).toArray), kc 50 (.agg (I64 ls7).toArray), kc 51 (.agg (I64 ld).toArray), ka 8 80 (I64 Z16)] 9 (by kernel_rfl) (by kernel_rfl) (by kernel_rfl) (by repeat' first | exact trivial | apply kc_keeps | apply ka_keeps | constructor) 1 (by kernel_rfl) (fun vv3 ll3 hh3 y b => ?_) (fun vv3 ll3 hh3 y b F iv ap => ?_)
 ·skip
  replace fr := fr.trans (b.mono fr.size)
  replace pa := pa.kept b
  replace pb := pb.kept b
  replace pr := pr.kept b
  replace Aa := Aa.kept b
  replace Ab := Ab.kept b
  replace Ac := Ac.kept b
  exact ⟨tp (by kernel_rfl),
   tl (E4.rc hP pa) iPc hu (by kernel_rfl),
   tp (by kernel_rfl),
   tl (E4.rc hQ pb) iQc hu (by kernel_rfl),
   tp (by kernel_rfl),
   tl (E4.rc hQ pb) iQc hu (by kernel_rfl),
   tc (Hs7.out _) (by kernel_rfl),
   tc (Hd.out _) (by kernel_rfl),
   ta (by kernel_rfl), trivial⟩
 obtain ⟨y11, hy⟩ : ∃ z, z = y := ⟨_, rfl⟩
 rw [← hy] at b F iv ⊢
 clear hy
 have oq : w.heap.size < V10.heap.size ∧ (w.heap.size + 1) < V10.heap.size ∧ (w.heap.size + 2) < V10.heap.size ∧ Xa < V10.heap.size ∧ Xb < V10.heap.size ∧ Xc < V10.heap.size ∧ w.heap.size ≤ V10.heap.size := ⟨pa.lt, pb.lt, pr.lt, Aa.lt, Ab.lt, Ac.lt, fr.size⟩
 replace fr := fr.trans (b.mono fr.size)
 replace pa := pa.kept b
 replace pb := pb.kept b
 replace pr := pr.kept b
 replace Aa := Aa.kept b
 replace Ab := Ab.kept b
 replace Ac := Ac.kept b
 obtain ⟨-, -, -, -, -, -, -, -, ⟨Ad, -⟩, -⟩ := F
 have iXd := iv 8 (by decide)
 have lXd := Ad.lt
 refine st_row (i := 9) (by kernel_rfl) rfl rfl rfl rfl Ad (by kernel_rfl) (by kernel_rfl) (by simp [nd]) jd ud ?_
 replace fr := bel_sc fr (ll3 8) (I64 ld) (by omega)
 replace pa := pa.sc (ll3 8) (I64 ld) (by omega)
 replace pb := pb.sc (ll3 8) (I64 ld) (by omega)
 replace pr := pr.sc (ll3 8) (I64 ld) (by omega)
 replace Aa := Aa.sc (ll3 8) (I64 ld) (by omega)
 replace Ab := Ab.sc (ll3 8) (I64 ld) (by omega)
 replace Ac := Ac.sc (ll3 8) (I64 ld) (by omega)
 replace Ad := Ad.sc0 (I64 ld) (by simp [nd])
 obtain ⟨V12, hVe⟩ : ∃ V, V = y11.setCells (ll3 8) 0 (I64 ld) := ⟨_, rfl⟩
 rw [← hVe] at fr pa pb pr Aa Ab Ac Ad ⊢
 clear hVe
 refine wpAny_done (by kernel_rfl) ?_ _
 simp only [fillK, putT, List.setIfInBounds_toArray, List.set_cons_zero, List.set_cons_succ]
 generalize ll3 8 = Xd at *
 clear iv ap b oq
 go_wp2_with (first
   | (refine wpList_load_row rfl 80 _ rfl Xb rfl 80 (I64 lb).toArray (0, 0) _ Ab Tryz.underlying80 rfl jb ?_)
   | (refine wpList_load_row rfl 80 _ rfl Xa rfl 80 (I64 la).toArray (0, 0) _ Aa Tryz.underlying80 rfl ja ?_))
 refine (He.out _).mono ?_
 rintro e y13 ⟨rfl, hb13⟩
 replace fr := fr.trans (hb13.mono fr.size)
 replace pa := pa.kept hb13
 replace pb := pb.kept hb13
 replace pr := pr.kept hb13
 replace Aa := Aa.kept hb13
 replace Ab := Ab.kept hb13
 replace Ac := Ac.kept hb13
 replace Ad := Ad.kept hb13
 clear hb13
 obtain ⟨bV, Ae, q1⟩ := laid_e y13 le
 replace fr := fr.trans (bV.mono fr.size)
 replace pa := pa.kept bV
 replace pb := pb.kept bV
 replace pr := pr.kept bV
 replace Aa := Aa.kept bV
 replace Ab := Ab.kept bV
 replace Ac := Ac.kept bV
 replace Ad := Ad.kept bV
 go_wp2_with (first
   | (refine wpList_load_row rfl 80 _ rfl Xd rfl 80 (I64 ld).toArray (0, 0) _ Ad Tryz.underlying80 rfl jd ?_)
   | (refine wpList_load_row rfl 80 _ rfl Xc rfl 80 (I64 lc).toArray (0, 0) _ Ac Tryz.underlying80 rfl jc ?_)
   | (refine wpList_store_row rfl 80 _ _ rfl y13.heap.size (I64 le).toArray rfl rfl 80 _ q1 je (by simp [ne]) (by simp [Value.oneCell']) ?_))
 obtain ⟨V14, hVV⟩ : ∃ V, V = (y13.alloc (.cells zV 80)).setRow y13.heap.size (I64 le).toArray := ⟨_, rfl⟩
 obtain ⟨Xe, hE⟩ : ∃ E, E = y13.heap.size := ⟨_, rfl⟩
 rw [← hVV] at fr pa pb pr Aa Ab Ac Ad Ae ⊢
 rw [← hE] at Ae ⊢
 clear hVV hE q1 bV
 refine (Hf.out _).mono ?_
 rintro e y15 ⟨rfl, hb15⟩
 replace fr := fr.trans (hb15.mono fr.size)
 replace pa := pa.kept hb15
 replace pb := pb.kept hb15
 replace pr := pr.kept hb15
 replace Aa := Aa.kept hb15
 replace Ab := Ab.kept hb15
 replace Ac := Ac.kept hb15
 replace Ad := Ad.kept hb15
 replace Ae := Ae.kept hb15
 clear hb15
 obtain ⟨bV, Af, q1⟩ := laid_e y15 lf
 replace fr := fr.trans (bV.mono fr.size)
 replace pa := pa.kept bV
 replace pb := pb.kept bV
 replace pr := pr.kept bV
 replace Aa := Aa.kept bV
 replace Ab := Ab.kept bV
 replace Ac := Ac.kept bV
 replace Ad := Ad.kept bV
 replace Ae := Ae.kept bV
 go_wp2_with (first
   | (refine wpList_load_row rfl 80 _ rfl Xd rfl 80 (I64 ld).toArray (0, 0) _ Ad Tryz.underlying80 rfl jd ?_)
   | (refine wpList_load_row rfl 80 _ rfl Xc rfl 80 (I64 lc).toArray (0, 0) _ Ac Tryz.underlying80 rfl jc ?_)
   | (refine wpList_store_row rfl 80 _ _ rfl y15.heap.size (I64 lf).toArray rfl rfl 80 _ q1 jf (by simp [nf]) (by simp [Value.oneCell']) ?_))
 obtain ⟨V16, hVV⟩ : ∃ V, V = (y15.alloc (.cells zV 80)).setRow y15.heap.size (I64 lf).toArray := ⟨_, rfl⟩
 obtain ⟨Xf, hE⟩ : ∃ E, E = y15.heap.size := ⟨_, rfl⟩
 rw [← hVV] at fr pa pb pr Aa Ab Ac Ad Ae Af ⊢
 rw [← hE] at Af ⊢
 clear hVV hE q1 bV
 refine (Hg.out _).mono ?_
 rintro e y17 ⟨rfl, hb17⟩
 replace fr := fr.trans (hb17.mono fr.size)
 replace pa := pa.kept hb17
 replace pb := pb.kept hb17
 replace pr := pr.kept hb17
 replace Aa := Aa.kept hb17
 replace Ab := Ab.kept hb17
 replace Ac := Ac.kept hb17
 replace Ad := Ad.kept hb17
 replace Ae := Ae.kept hb17
 replace Af := Af.kept hb17
 clear hb17
 obtain ⟨bV, Ag, q1⟩ := laid_e y17 lg
 replace fr := fr.trans (bV.mono fr.size)
 replace pa := pa.kept bV
 replace pb := pb.kept bV
 replace pr := pr.kept bV
 replace Aa := Aa.kept bV
 replace Ab := Ab.kept bV
 replace Ac := Ac.kept bV
 replace Ad := Ad.kept bV
 replace Ae := Ae.kept bV
 replace Af := Af.kept bV
 go_wp2_with (first
   | (refine wpList_load_row rfl 80 _ rfl Xb rfl 80 (I64 lb).toArray (0, 0) _ Ab Tryz.underlying80 rfl jb ?_)
   | (refine wpList_load_row rfl 80 _ rfl Xa rfl 80 (I64 la).toArray (0, 0) _ Aa Tryz.underlying80 rfl ja ?_)
   | (refine wpList_store_row rfl 80 _ _ rfl y17.heap.size (I64 lg).toArray rfl rfl 80 _ q1 jg (by simp [ng]) (by simp [Value.oneCell']) ?_))
 obtain ⟨V18, hVV⟩ : ∃ V, V = (y17.alloc (.cells zV 80)).setRow y17.heap.size (I64 lg).toArray := ⟨_, rfl⟩
 obtain ⟨Xg, hE⟩ : ∃ E, E = y17.heap.size := ⟨_, rfl⟩
 rw [← hVV] at fr pa pb pr Aa Ab Ac Ad Ae Af Ag ⊢
 rw [← hE] at Ag ⊢
 clear hVV hE q1 bV
 refine (Hh.out _).mono ?_
 rintro e y19 ⟨rfl, hb19⟩
 replace fr := fr.trans (hb19.mono fr.size)
 replace pa := pa.kept hb19
 replace pb := pb.kept hb19
 replace pr := pr.kept hb19
 replace Aa := Aa.kept hb19
 replace Ab := Ab.kept hb19
 replace Ac := Ac.kept hb19
 replace Ad := Ad.kept hb19
 replace Ae := Ae.kept hb19
 replace Af := Af.kept hb19
 replace Ag := Ag.kept hb19
 clear hb19
 obtain ⟨bV, Ah, q1⟩ := laid_e y19 lh
 replace fr := fr.trans (bV.mono fr.size)
 replace pa := pa.kept bV
 replace pb := pb.kept bV
 replace pr := pr.kept bV
 replace Aa := Aa.kept bV
 replace Ab := Ab.kept bV
 replace Ac := Ac.kept bV
 replace Ad := Ad.kept bV
 replace Ae := Ae.kept bV
 replace Af := Af.kept bV
 replace Ag := Ag.kept bV
 go_wp2_with (refine wpList_store_row rfl 80 _ _ rfl y19.heap.size (I64 lh).toArray rfl rfl 80 _ q1 jh (by simp [nh]) (by simp [Value.oneCell']) ?_)
 obtain ⟨V20, hVV⟩ : ∃ V, V = (y19.alloc (.cells zV 80)).setRow y19.heap.size (I64 lh).toArray := ⟨_, rfl⟩
 obtain ⟨Xh, hE⟩ : ∃ E, E = y19.heap.size := ⟨_, rfl⟩
 rw [← hVV] at fr pa pb pr Aa Ab Ac Ad Ae Af Ag Ah ⊢
 rw [← hE] at Ah ⊢
 clear hVV hE q1 bV
 have hXX : Xe ≠ w.heap.size + 2 ∧ Xf ≠ w.heap.size + 2 ∧ Xg ≠ w.heap.size + 2 ∧ Xh ≠ w.heap.size + 2 := ⟨arr_ne Ae pr (by decide), arr_ne Af pr (by decide), arr_ne Ag pr (by decide), arr_ne Ah pr (by decide)⟩
 clear pa
 clear pb
 clear Aa
 clear Ab
 clear Ac
 clear Ad
 try simp only [Act.put]
 refine tame [kc 64 (.agg (I64 le).toArray), kc 65 (.agg (I64 lf).toArray), kc 66 (.agg (I64 R.a).toArray), kc 67 (.agg (I64 lg).toArray), kc 68 (.agg (I64 lh).toArray), kc 69 (.agg (I64 R.b).toArray), kc 70 (.agg (I64 lf).toArray), kc 71 (.agg (I64 lg).toArray), kc 72 (.agg (I64 R.c).toArray), kc 73 (.agg (I64 le).toArray), kc 74 (.agg (I64 lh).toArray), kc 75 (.agg (I64 R.t).toArray), kc 76 (.agg (I64 R.cells).toArray)] 13 (by kernel_rfl) (by kernel_rfl) (by kernel_rfl) (by repeat' first | exact trivial | apply kc_keeps | apply ka_keeps | constructor) 1 (by kernel_rfl) (fun vv4 ll4 hh4 y b => ?_) (fun vv4 ll4 hh4 y b F iv ap => ?_)
 ·skip
  replace fr := fr.trans (b.mono fr.size)
  replace pr := pr.kept b
  replace Ae := Ae.kept b
  replace Af := Af.kept b
  replace Ag := Ag.kept b
  replace Ah := Ah.kept b
  exact ⟨tl (arr_range Ae) iie hu (by kernel_rfl),
   tl (arr_range Af) iif hu (by kernel_rfl),
   tc (HRa.out _) (by kernel_rfl),
   tl (arr_range Ag) iig hu (by kernel_rfl),
   tl (arr_range Ah) iih hu (by kernel_rfl),
   tc (HRb.out _) (by kernel_rfl),
   tl (arr_range Af) iif hu (by kernel_rfl),
   tl (arr_range Ag) iig hu (by kernel_rfl),
   tc (HRc.out _) (by kernel_rfl),
   tl (arr_range Ae) iie hu (by kernel_rfl),
   tl (arr_range Ah) iih hu (by kernel_rfl),
   tc (HRt.out _) (by kernel_rfl),
   ty (S := fun _ => True) (yieldsIf_p6 (ops := #[]) (by rfl) _ _ _ _ (by rfl) R hRo (by kernel_rfl) (by kernel_rfl) (by kernel_rfl) (by kernel_rfl)) (by rfl) trivial, trivial⟩
 obtain ⟨y21, hy⟩ : ∃ z, z = y := ⟨_, rfl⟩
 rw [← hy] at b F iv ⊢
 clear hy
 have oq : (w.heap.size + 2) < V20.heap.size ∧ Xe < V20.heap.size ∧ Xf < V20.heap.size ∧ Xg < V20.heap.size ∧ Xh < V20.heap.size ∧ w.heap.size ≤ V20.heap.size := ⟨pr.lt, Ae.lt, Af.lt, Ag.lt, Ah.lt, fr.size⟩
 replace fr := fr.trans (b.mono fr.size)
 replace pr := pr.kept b
 replace Ae := Ae.kept b
 replace Af := Af.kept b
 replace Ag := Ag.kept b
 replace Ah := Ah.kept b
 clear F
 refine st_row (i := 13) (by kernel_rfl) rfl rfl rfl rfl pr (by kernel_rfl) (by kernel_rfl) (by simp [hRl]) hip hone ?_
 replace fr := bel_sc fr (w.heap.size + 2) (I64 R.cells) (by omega)
 replace pr := pr.sc0 (I64 R.cells) (by simp [hRl])
 replace Ae := Ae.sc (w.heap.size + 2) (I64 R.cells) (by omega)
 replace Af := Af.sc (w.heap.size + 2) (I64 R.cells) (by omega)
 replace Ag := Ag.sc (w.heap.size + 2) (I64 R.cells) (by omega)
 replace Ah := Ah.sc (w.heap.size + 2) (I64 R.cells) (by omega)
 obtain ⟨V22, hVe⟩ : ∃ V, V = y21.setCells (w.heap.size + 2) 0 (I64 R.cells) := ⟨_, rfl⟩
 rw [← hVe] at fr pr Ae Af Ag Ah ⊢
 clear hVe
 refine wpAny_done (by kernel_rfl) ?_ _
 simp only [fillK, putT, List.setIfInBounds_toArray, List.set_cons_zero, List.set_cons_succ]
 clear iv ap b oq
 go_wp2
 exact bodyPost_ret (results_cell_row rfl _ _ (w.heap.size + 2) 86 (I64 R.cells).toArray (0, 0) _ rfl pr Tryz.underlying86 rfl hip) rfl ⟨rfl, fr⟩
theorem i64_at (a : List Int) (i : Nat) (h : i < a.length) : (I64 a).toArray[i]? = some (.int .i64 (a.getD i 0)) := by
 rw [List.getElem?_toArray, List.getElem?_map, List.getElem?_eq_getElem h, List.getD, List.getElem?_eq_getElem h]
 rfl
theorem run_eqItems_i64 (a b : List Int) (d : Nat) (w : World) : ∀ is : List Nat, (∀ i ∈ is, i < a.length ∧ i < b.length) →
  (Op.eqItems (d + 1) 3 1 (I64 a).toArray (I64 b).toArray is).run Tryz.prog w = .ok (is.all fun i => a.getD i 0 == b.getD i 0) w
 | [], _ => by simp [Op.eqItems]
 | i :: is, h => by
  obtain ⟨h1, h2⟩ := h i (List.mem_cons_self)
  have ih := run_eqItems_i64 a b d w is (fun j hj => h j (List.mem_cons_of_mem _ hj))
  have hk : Tryz.prog.plainKey 3 = true := by kernel_rfl
  have p1 := run_part_plain (P := Tryz.prog) w hk (xs := (I64 a).toArray) (off := i * 1) (by rw [Nat.mul_one]; exact i64_at a i h1)
  have p2 := run_part_plain (P := Tryz.prog) w hk (xs := (I64 b).toArray) (off := i * 1) (by rw [Nat.mul_one]; exact i64_at b i h2)
  have p3 := run_equalIn_int (P := Tryz.prog) w d 3 .i64 .i64 (a.getD i 0) (b.getD i 0) Tryz.underlying3
  simp only [Op.eqItems, Sem.run_bind, p1, p2, p3, Result.andThen_ok, List.all_cons]
  cases hc : (a.getD i 0 == b.getD i 0) with
  | true =>
   simp only [Bool.not_true, Bool.false_eq_true, if_false, Bool.true_and]
   exact ih
  | false => rfl
theorem all_range {a b : List Int} (ha : a.length = 16) (hb : b.length = 16) : ((List.range 16).all fun i => a.getD i 0 == b.getD i 0) = decide (a = b) := by
 by_cases h : a = b
 ·subst h; simp
 ·rw [decide_eq_false h, ← Bool.not_eq_true]
  intro hc
  refine h (List.ext_getElem (by omega) fun i h1 h2 => ?_)
  have := List.all_eq_true.1 hc i (List.mem_range.2 (by omega))
  simpa [List.getD, h1, h2] using this
def onL (x y : List Int) : List Int := red (val (red (val y * val y)) - val (red (val x * val x)))
def onR (x y : List Int) : List Int := red (val (lim 16 1) + val (red (val DL * val (red (val (red (val x * val x)) * val (red (val y * val y)))))))
def onB (x y : List Int) : Bool := decide (onL x y = onR x y)
set_option maxHeartbeats 4000000
set_option linter.unusedSectionVars false

def fl (l : List Int) : KF := fe (val l)
theorem fl_red (x : Int) : fl (red x) = fe x := by unfold fl; rw [val_red, fe_mod]
theorem fl_inj {a b : List Int} (ha : feOk a = true) (hb : feOk b = true) (h : fl a = fl b) : a = b := by
 obtain ⟨a1, a2, a3⟩ := (feOk_iff a).1 ha
 obtain ⟨b1, b2, b3⟩ := (feOk_iff b).1 hb
 have na := val_nonneg (fun x hx => (a2 x hx).1)
 have nb := val_nonneg (fun x hx => (b2 x hx).1)
 have e := fe_eq.1 h
 rw [Int.emod_eq_of_lt na a3, Int.emod_eq_of_lt nb b3] at e
 have la := lim_val a a2
 have lb := lim_val b b2
 rw [a1] at la
 rw [b1] at lb
 rw [← la, ← lb, e]
def cx (k : KF) : List Int := lim 16 (k.val : Int)
theorem cx_lt (k : KF) : 0 ≤ (k.val : Int) ∧ (k.val : Int) < P25519 := ⟨Int.natCast_nonneg _, by rw [← pN_int]; exact Int.ofNat_lt.2 k.isLt⟩
theorem cx_val (k : KF) : val (cx k) = (k.val : Int) := by
 have h := cx_lt k
 unfold cx
 rw [val_lim, p256]
 have h2 := h.2
 unfold P25519 at h2
 exact Int.emod_eq_of_lt h.1 (Int.lt_trans h2 (by decide))
theorem cx_ok (k : KF) : feOk (cx k) = true := (feOk_iff _).2 ⟨lim_len _ _, lim_lm _ _, by rw [cx_val]; exact (cx_lt k).2⟩
theorem fl_cx (k : KF) : fl (cx k) = k := by unfold fl; rw [cx_val, fe_back]
theorem cx_fl {l : List Int} (h : feOk l = true) : cx (fl l) = l := fl_inj (cx_ok _) h (fl_cx _)
theorem DL_val : val DL = (dN : Int) := by decide
section
variable [NeZero pN]
theorem fl_DL : fl DL = dK := by unfold fl dK; rw [DL_val]
theorem fl_one : fl (lim 16 1) = 1 := by
 have h : val (lim 16 1) = 1 := by decide
 unfold fl; rw [h, fe_one]
theorem fl_zero : fl (lim 16 0) = 0 := by
 have h : val (lim 16 0) = 0 := by decide
 unfold fl; rw [h, fe_zero]
theorem fl_mul (x y : List Int) : fl (red (val x * val y)) = fl x * fl y := by rw [fl_red, fe_mul]; rfl
theorem fl_add (x y : List Int) : fl (red (val x + val y)) = fl x + fl y := by rw [fl_red, fe_add]; rfl
theorem fl_sub (x y : List Int) : fl (red (val x - val y)) = fl x - fl y := by rw [fl_red, fe_sub]; rfl
theorem fl_inv (c : List Int) : fl (invF c) = ivK (fl c) := by
 unfold invF
 rw [fl_red]
 exact (ivK_fe (val c)).symm
def Ext6 (P : E4) (p : KF × KF) : Prop := Ext (fl P.a) (fl P.b) (fl P.c) (fl P.t) p
theorem ext6_make (x y : List Int) : Ext6 (mk6 x y) (fl x, fl y) := by
 have h := Ext.make crvK (fl x) (fl y)
 unfold Ext6
 show Ext (fl x) (fl y) (fl (lim 16 1)) (fl (red (val x * val y))) _
 rw [fl_one, fl_mul]
 exact h
theorem ext6_add {P Q : E4} {p q : KF × KF} (h1 : Ext6 P p) (h2 : Ext6 Q q) (o1 : On dK p) (o2 : On dK q) : Ext6 (add6 P Q) (pAdd dK ivK p q) := by
 unfold Ext6 add6
 simp only [fl_mul, fl_add, fl_sub, fl_DL]
 exact Ext.add crvK h1 h2 o1 o2 rfl rfl rfl rfl rfl rfl rfl rfl
theorem ext6_neg {P : E4} {p : KF × KF} (h : Ext6 P p) : Ext6 (neg6 P) (pNeg p) := by
 unfold Ext6 neg6
 simp only [fl_sub, fl_zero]
 exact Ext.neg h
theorem ext6_flat {P : E4} {p : KF × KF} (h : Ext6 P p) : flx P = cx p.1 ∧ fly P = cx p.2 := by
 have hf := Ext.flat crvK h
 constructor
 ·refine fl_inj (ok_red _) (cx_ok _) ?_
  unfold flx
  rw [fl_mul, fl_inv, fl_cx]; exact hf.1
 ·refine fl_inj (ok_red _) (cx_ok _) ?_
  unfold fly
  rw [fl_mul, fl_inv, fl_cx]; exact hf.2
theorem onB_iff (x y : List Int) : onB x y = true ↔ On dK (fl x, fl y) := by
 unfold onB On
 rw [decide_eq_true_eq]
 have e1 : fl (onL x y) = fl y * fl y - fl x * fl x := by unfold onL; rw [fl_sub, fl_mul, fl_mul]
 have e2 : fl (onR x y) = 1 + dK * (fl x * fl x * (fl y * fl y)) := by unfold onR; rw [fl_add, fl_mul, fl_mul, fl_mul, fl_mul, fl_one, fl_DL]
 constructor
 ·intro h
  have := congrArg fl h
  rw [e1, e2] at this
  show fl y * fl y - fl x * fl x = 1 + dK * (fl x * fl x) * (fl y * fl y)
  rw [this]
  grind
 ·intro h
  refine fl_inj (ok_red _) (ok_red _) ?_
  show fl (onL x y) = fl (onR x y)
  rw [e1, e2]
  have h' : fl y * fl y - fl x * fl x = 1 + dK * (fl x * fl x) * (fl y * fl y) := h
  rw [h']
  grind
end
end Go.Proofs.YtihoaakbkffejaaGreatDoor

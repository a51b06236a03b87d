/-
  What is proved here: the contract of the specification's l6add: the sum of two points in the long form.
-/
import Derived.Test.YtoblilngppjmhaaDoorW9Ua
namespace Go.Proofs.YtoblilngppjmhaaDoor
open Go.RowKit
set_option maxRecDepth 100000
abbrev qUd0 : Oper := { dst := none, op := Op.store 82 (Operand.tmp 5) (Operand.tmp 23), type := 0, pos := "l06_point.go:35", after := #[{ on := 11, ground := Ground.data }, { on := 10, ground := Ground.data }, { on := 10, ground := Ground.chain }, { on := 0, ground := Ground.phase }, { on := 1, ground := Ground.phase }, { on := 2, ground := Ground.phase }, { on := 3, ground := Ground.phase }, { on := 4, ground := Ground.phase }, { on := 5, ground := Ground.phase }, { on := 6, ground := Ground.phase }, { on := 7, ground := Ground.phase }, { on := 8, ground := Ground.phase }, { on := 9, ground := Ground.phase }, { on := 10, ground := Ground.phase }, { on := 11, ground := Ground.phase }], guard := none }
abbrev qUd1 : Oper := { dst := none, op := Op.store 82 (Operand.tmp 6) (Operand.tmp 34), type := 0, pos := "l06_point.go:36", after := #[{ on := 11, ground := Ground.data }, { on := 10, ground := Ground.data }, { on := 10, ground := Ground.chain }, { on := 0, ground := Ground.phase }, { on := 1, ground := Ground.phase }, { on := 2, ground := Ground.phase }, { on := 3, ground := Ground.phase }, { on := 4, ground := Ground.phase }, { on := 5, ground := Ground.phase }, { on := 6, ground := Ground.phase }, { on := 7, ground := Ground.phase }, { on := 8, ground := Ground.phase }, { on := 9, ground := Ground.phase }, { on := 10, ground := Ground.phase }, { on := 11, ground := Ground.phase }], guard := none }
abbrev qUd2 : Oper := { dst := none, op := Op.store 82 (Operand.tmp 8) (Operand.tmp 51), type := 0, pos := "l06_point.go:38", after := #[{ on := 8, ground := Ground.data }, { on := 7, ground := Ground.data }, { on := 7, ground := Ground.chain }, { on := 0, ground := Ground.phase }, { on := 1, ground := Ground.phase }, { on := 2, ground := Ground.phase }, { on := 3, ground := Ground.phase }, { on := 4, ground := Ground.phase }, { on := 5, ground := Ground.phase }, { on := 6, ground := Ground.phase }, { on := 7, ground := Ground.phase }, { on := 8, ground := Ground.phase }], guard := none }

theorem arr_ne {W : World} {g k : Nat} {t s : TypeId} {cs ds : List Value} (h : Arr W g t cs) (h' : Arr W k s ds) (hn : t ≠ s) : g ≠ k := by
 rintro rfl
 have e := Option.some.inj (h.symm.trans h')
 injection e with _ e2
 exact hn e2
theorem subC {x y : List Int} (hx : feOk x = true) (hy : feOk y = true) (Z : World) : Calls Tryd.prog 110 #[.agg (I64 x).toArray, .agg (I64 y).toArray] Z fun e w' => e = .returned (.agg (I64 (red (val x - val y))).toArray) ∧ Below Z.heap.size Z w' := specSub16 x y Z hx hy
theorem addC {x y : List Int} (hx : feOk x = true) (hy : feOk y = true) (Z : World) : Calls Tryd.prog 111 #[.agg (I64 x).toArray, .agg (I64 y).toArray] Z fun e w' => e = .returned (.agg (I64 (red (val x + val y))).toArray) ∧ Below Z.heap.size Z w' := specAdd16 x y Z (feOk_len hx) (feOk_len hy) (feOk_lm' hx) (feOk_lm' hy)
theorem mulC {x y : List Int} (hx : feOk x = true) (hy : feOk y = true) (Z : World) : Calls Tryd.prog 109 #[.agg (I64 x).toArray, .agg (I64 y).toArray] Z fun e w' => e = .returned (.agg (I64 (red (val x * val y))).toArray) ∧ Below Z.heap.size Z w' := specMul16 x y Z (feOk_len hx) (feOk_len hy) (feOk_lm' hx) (feOk_lm' hy)

set_option maxHeartbeats 8000000 in
theorem spec6add (P Q : E4) (w : World) (hP : P.Ok) (hQ : Q.Ok) :
  Calls Tryd.prog 90 #[.agg (I64 P.cells).toArray, .agg (I64 Q.cells).toArray] w fun e w' => e = .returned (.agg (I64 (add6 P Q).cells).toArray) ∧ Below w.heap.size w w' := by
 obtain ⟨ls1, es1⟩ : ∃ x, x = red (val P.b - val P.a) := ⟨_, rfl⟩
 have ks1 : feOk ls1 = true := by rw [es1]; exact ok_red _
 obtain ⟨ls2, es2⟩ : ∃ x, x = red (val Q.b - val Q.a) := ⟨_, rfl⟩
 have ks2 : feOk ls2 = true := by rw [es2]; exact ok_red _
 obtain ⟨la, ea⟩ : ∃ x, x = red (val ls1 * val ls2) := ⟨_, rfl⟩
 have ka : feOk la = true := by rw [ea]; exact ok_red _
 obtain ⟨ls3, es3⟩ : ∃ x, x = red (val P.b + val P.a) := ⟨_, rfl⟩
 have ks3 : feOk ls3 = true := by rw [es3]; exact ok_red _
 obtain ⟨ls4, es4⟩ : ∃ x, x = red (val Q.b + val Q.a) := ⟨_, rfl⟩
 have ks4 : feOk ls4 = true := by rw [es4]; exact ok_red _
 obtain ⟨lb, eb⟩ : ∃ x, x = red (val ls3 * val ls4) := ⟨_, rfl⟩
 have kb : feOk lb = true := by rw [eb]; exact ok_red _
 obtain ⟨ls5, es5⟩ : ∃ x, x = red (val P.t * val Q.t) := ⟨_, rfl⟩
 have ks5 : feOk ls5 = true := by rw [es5]; exact ok_red _
 obtain ⟨ls6, es6⟩ : ∃ x, x = red (val DL + val DL) := ⟨_, rfl⟩
 have ks6 : feOk ls6 = true := by rw [es6]; exact ok_red _
 obtain ⟨lc, ec⟩ : ∃ x, x = red (val ls5 * val ls6) := ⟨_, rfl⟩
 have kc : feOk lc = true := by rw [ec]; exact ok_red _
 obtain ⟨ls7, es7⟩ : ∃ x, x = red (val Q.c + val Q.c) := ⟨_, rfl⟩
 have ks7 : feOk ls7 = true := by rw [es7]; exact ok_red _
 obtain ⟨ld, ed⟩ : ∃ x, x = red (val P.c * val ls7) := ⟨_, rfl⟩
 have kd : feOk ld = true := by rw [ed]; exact ok_red _
 obtain ⟨le, ee⟩ : ∃ x, x = red (val lb - val la) := ⟨_, rfl⟩
 have ke : feOk le = true := by rw [ee]; exact ok_red _
 obtain ⟨lf, ef⟩ : ∃ x, x = red (val ld - val lc) := ⟨_, rfl⟩
 have kf : feOk lf = true := by rw [ef]; exact ok_red _
 obtain ⟨lg, eg⟩ : ∃ x, x = red (val ld + val lc) := ⟨_, rfl⟩
 have kg : feOk lg = true := by rw [eg]; exact ok_red _
 obtain ⟨lh, eh⟩ : ∃ x, x = red (val lb + val la) := ⟨_, rfl⟩
 have kh : feOk lh = true := by rw [eh]; exact ok_red _
 have Hs1 : Hid (∀ Z, Calls Tryd.prog 110 #[.agg (I64 P.b).toArray, .agg (I64 P.a).toArray] Z fun e w' => e = .returned (.agg (I64 ls1).toArray) ∧ Below Z.heap.size Z w') := by
  unfold Hid; intro Z; rw [es1]; exact subC hP.b hP.a Z
 have Hs2 : Hid (∀ Z, Calls Tryd.prog 110 #[.agg (I64 Q.b).toArray, .agg (I64 Q.a).toArray] Z fun e w' => e = .returned (.agg (I64 ls2).toArray) ∧ Below Z.heap.size Z w') := by
  unfold Hid; intro Z; rw [es2]; exact subC hQ.b hQ.a Z
 have Ha : Hid (∀ Z, Calls Tryd.prog 109 #[.agg (I64 ls1).toArray, .agg (I64 ls2).toArray] Z fun e w' => e = .returned (.agg (I64 la).toArray) ∧ Below Z.heap.size Z w') := by
  unfold Hid; intro Z; rw [ea]; exact mulC ks1 ks2 Z
 have Hs3 : Hid (∀ Z, Calls Tryd.prog 111 #[.agg (I64 P.b).toArray, .agg (I64 P.a).toArray] Z fun e w' => e = .returned (.agg (I64 ls3).toArray) ∧ Below Z.heap.size Z w') := by
  unfold Hid; intro Z; rw [es3]; exact addC hP.b hP.a Z
 have Hs4 : Hid (∀ Z, Calls Tryd.prog 111 #[.agg (I64 Q.b).toArray, .agg (I64 Q.a).toArray] Z fun e w' => e = .returned (.agg (I64 ls4).toArray) ∧ Below Z.heap.size Z w') := by
  unfold Hid; intro Z; rw [es4]; exact addC hQ.b hQ.a Z
 have Hb : Hid (∀ Z, Calls Tryd.prog 109 #[.agg (I64 ls3).toArray, .agg (I64 ls4).toArray] Z fun e w' => e = .returned (.agg (I64 lb).toArray) ∧ Below Z.heap.size Z w') := by
  unfold Hid; intro Z; rw [eb]; exact mulC ks3 ks4 Z
 have Hs5 : Hid (∀ Z, Calls Tryd.prog 109 #[.agg (I64 P.t).toArray, .agg (I64 Q.t).toArray] Z fun e w' => e = .returned (.agg (I64 ls5).toArray) ∧ Below Z.heap.size Z w') := by
  unfold Hid; intro Z; rw [es5]; exact mulC hP.t hQ.t Z
 have Hs6 : Hid (∀ Z, Calls Tryd.prog 111 #[.agg (I64 DL).toArray, .agg (I64 DL).toArray] Z fun e w' => e = .returned (.agg (I64 ls6).toArray) ∧ Below Z.heap.size Z w') := by
  unfold Hid; intro Z; rw [es6]; exact addC DL_ok DL_ok Z
 have Hc : Hid (∀ Z, Calls Tryd.prog 109 #[.agg (I64 ls5).toArray, .agg (I64 ls6).toArray] Z fun e w' => e = .returned (.agg (I64 lc).toArray) ∧ Below Z.heap.size Z w') := by
  unfold Hid; intro Z; rw [ec]; exact mulC ks5 ks6 Z
 have Hs7 : Hid (∀ Z, Calls Tryd.prog 111 #[.agg (I64 Q.c).toArray, .agg (I64 Q.c).toArray] Z fun e w' => e = .returned (.agg (I64 ls7).toArray) ∧ Below Z.heap.size Z w') := by
  unfold Hid; intro Z; rw [es7]; exact addC hQ.c hQ.c Z
 have Hd : Hid (∀ Z, Calls Tryd.prog 109 #[.agg (I64 P.c).toArray, .agg (I64 ls7).toArray] Z fun e w' => e = .returned (.agg (I64 ld).toArray) ∧ Below Z.heap.size Z w') := by
  unfold Hid; intro Z; rw [ed]; exact mulC hP.c ks7 Z
 have He : Hid (∀ Z, Calls Tryd.prog 110 #[.agg (I64 lb).toArray, .agg (I64 la).toArray] Z fun e w' => e = .returned (.agg (I64 le).toArray) ∧ Below Z.heap.size Z w') := by
  unfold Hid; intro Z; rw [ee]; exact subC kb ka Z
 have Hf : Hid (∀ Z, Calls Tryd.prog 110 #[.agg (I64 ld).toArray, .agg (I64 lc).toArray] Z fun e w' => e = .returned (.agg (I64 lf).toArray) ∧ Below Z.heap.size Z w') := by
  unfold Hid; intro Z; rw [ef]; exact subC kd kc Z
 have Hg : Hid (∀ Z, Calls Tryd.prog 111 #[.agg (I64 ld).toArray, .agg (I64 lc).toArray] Z fun e w' => e = .returned (.agg (I64 lg).toArray) ∧ Below Z.heap.size Z w') := by
  unfold Hid; intro Z; rw [eg]; exact addC kd kc Z
 have Hh : Hid (∀ Z, Calls Tryd.prog 111 #[.agg (I64 lb).toArray, .agg (I64 la).toArray] Z fun e w' => e = .returned (.agg (I64 lh).toArray) ∧ Below Z.heap.size Z w') := by
  unfold Hid; intro Z; rw [eh]; exact addC kb ka Z
 have HD : Hid (∀ Z, Calls Tryd.prog 113 #[] Z fun e w' => e = .returned (.agg (I64 DL).toArray) ∧ Below Z.heap.size Z w') := by
  unfold Hid; intro Z; exact spec6d Z
 obtain ⟨R, hR⟩ : ∃ R, R = add6 P Q := ⟨_, rfl⟩
 have hRo : R.Ok := by rw [hR]; exact add6_ok P Q
 have hRl := E4.len hRo
 have ra : red (val le * val lf) = R.a := by simp only [hR, add6, ed, es2, es4, ea, es6, ef, es1, ec, es3, es7, ee, eb, es5]
 have HRa : Hid (∀ Z, Calls Tryd.prog 109 #[.agg (I64 le).toArray, .agg (I64 lf).toArray] Z fun e w' => e = .returned (.agg (I64 R.a).toArray) ∧ Below Z.heap.size Z w') := by
  unfold Hid; intro Z; rw [← ra]; exact mulC ke kf Z
 have rb : red (val lg * val lh) = R.b := by simp only [hR, add6, ed, es2, ea, es6, eg, ec, es1, eh, es7, es3, eb, es4, es5]
 have HRb : Hid (∀ Z, Calls Tryd.prog 109 #[.agg (I64 lg).toArray, .agg (I64 lh).toArray] Z fun e w' => e = .returned (.agg (I64 R.b).toArray) ∧ Below Z.heap.size Z w') := by
  unfold Hid; intro Z; rw [← rb]; exact mulC kg kh Z
 have rc : red (val lf * val lg) = R.c := by simp only [hR, add6, ed, es6, ef, ec, eg, es7, es5]
 have HRc : Hid (∀ Z, Calls Tryd.prog 109 #[.agg (I64 lf).toArray, .agg (I64 lg).toArray] Z fun e w' => e = .returned (.agg (I64 R.c).toArray) ∧ Below Z.heap.size Z w') := by
  unfold Hid; intro Z; rw [← rc]; exact mulC kf kg Z
 have rt : red (val le * val lh) = R.t := by simp only [hR, add6, es2, es4, ea, es1, eh, es3, ee, eb]
 have HRt : Hid (∀ Z, Calls Tryd.prog 109 #[.agg (I64 le).toArray, .agg (I64 lh).toArray] Z fun e w' => e = .returned (.agg (I64 R.t).toArray) ∧ Below Z.heap.size Z w') := by
  unfold Hid; intro Z; rw [← rt]; exact mulC ke kh Z
 rw [← hR]
 have iis1 := infoEl ks1
 have js1 := infoE' ks1
 have ns1 := feOk_len ks1
 have us1 := one_lm ls1
 have iis2 := infoEl ks2
 have js2 := infoE' ks2
 have ns2 := feOk_len ks2
 have us2 := one_lm ls2
 have iia := infoEl ka
 have ja := infoE' ka
 have na := feOk_len ka
 have ua := one_lm la
 have iis3 := infoEl ks3
 have js3 := infoE' ks3
 have ns3 := feOk_len ks3
 have us3 := one_lm ls3
 have iis4 := infoEl ks4
 have js4 := infoE' ks4
 have ns4 := feOk_len ks4
 have us4 := one_lm ls4
 have iib := infoEl kb
 have jb := infoE' kb
 have nb := feOk_len kb
 have ub := one_lm lb
 have iis5 := infoEl ks5
 have js5 := infoE' ks5
 have ns5 := feOk_len ks5
 have us5 := one_lm ls5
 have iis6 := infoEl ks6
 have js6 := infoE' ks6
 have ns6 := feOk_len ks6
 have us6 := one_lm ls6
 have iic := infoEl kc
 have jc := infoE' kc
 have nc := feOk_len kc
 have uc := one_lm lc
 have iis7 := infoEl ks7
 have js7 := infoE' ks7
 have ns7 := feOk_len ks7
 have us7 := one_lm ls7
 have iid := infoEl kd
 have jd := infoE' kd
 have nd := feOk_len kd
 have ud := one_lm ld
 have iie := infoEl ke
 have je := infoE' ke
 have ne := feOk_len ke
 have ue := one_lm le
 have iif := infoEl kf
 have jf := infoE' kf
 have nf := feOk_len kf
 have uf := one_lm lf
 have iig := infoEl kg
 have jg := infoE' kg
 have ng := feOk_len kg
 have ug := one_lm lg
 have iih := infoEl kh
 have jh := infoE' kh
 have nh := feOk_len kh
 have uh := one_lm lh
 have iPa := infoEl hP.a
 have iQa := infoEl hQ.a
 have iPb := infoEl hP.b
 have iQb := infoEl hQ.b
 have iPc := infoEl hP.c
 have iQc := infoEl hQ.c
 have iPt := infoEl hP.t
 have iQt := infoEl hQ.t
 have hip := infoP' hRo
 have hone := one_lm R.cells
 have hu : Tryd.prog.underlying 82 = some (.array 16 3) := Tryd.underlying82
 obtain ⟨A, hA⟩ : ∃ A, A = (I64 P.cells).toArray := ⟨_, rfl⟩
 obtain ⟨B, hB⟩ : ∃ B, B = (I64 Q.cells).toArray := ⟨_, rfl⟩
 obtain ⟨W, hW⟩ : ∃ W, W = ((w.alloc (.cells A 108)).alloc (.cells B 108)).alloc (.cells #[.int .i64 0, .int .i64 0, .int .i64 0, .int .i64 0, .int .i64 0, .int .i64 0, .int .i64 0, .int .i64 0, .int .i64 0, .int .i64 0, .int .i64 0, .int .i64 0, .int .i64 0, .int .i64 0, .int .i64 0, .int .i64 0, .int .i64 0, .int .i64 0, .int .i64 0, .int .i64 0, .int .i64 0, .int .i64 0, .int .i64 0, .int .i64 0, .int .i64 0, .int .i64 0, .int .i64 0, .int .i64 0, .int .i64 0, .int .i64 0, .int .i64 0, .int .i64 0, .int .i64 0, .int .i64 0, .int .i64 0, .int .i64 0, .int .i64 0, .int .i64 0, .int .i64 0, .int .i64 0, .int .i64 0, .int .i64 0, .int .i64 0, .int .i64 0, .int .i64 0, .int .i64 0, .int .i64 0, .int .i64 0, .int .i64 0, .int .i64 0, .int .i64 0, .int .i64 0, .int .i64 0, .int .i64 0, .int .i64 0, .int .i64 0, .int .i64 0, .int .i64 0, .int .i64 0, .int .i64 0, .int .i64 0, .int .i64 0, .int .i64 0, .int .i64 0] 108) := ⟨_, rfl⟩
 have fr : Below w.heap.size w W := by rw [hW]; exact (((Below.refl _ _).alloc (Nat.le_refl _) _).alloc (by simp) _).alloc (by simp; omega) _
 have pa : Arr W w.heap.size 108 (I64 P.cells) := by rw [hW, hA]; exact ((Arr.new w (I64 P.cells) _).alloc _).alloc _
 have pb : Arr W (w.heap.size + 1) 108 (I64 Q.cells) := by
  rw [hW, hB]
  have := (Arr.new (w.alloc (.cells A 108)) (I64 Q.cells) 108).alloc (.cells (I64 Z64).toArray 108)
  rw [World.size_alloc] at this
  exact this
 have pr : Arr W (w.heap.size + 2) 108 (I64 Z64) := by
  rw [hW]
  have := Arr.new ((w.alloc (.cells A 108)).alloc (.cells B 108)) (I64 Z64) 108
  rw [World.size_alloc, World.size_alloc] at this
  exact this
 rw [← hA, ← hB]
 clear hA hB hR es1 es2 ea es3 es4 eb es5 es6 ec es7 ed ee ef eg eh ra rb rc rt ks1 ks2 ka ks3 ks4 kb ks5 ks6 kc ks7 kd ke kf kg kh
 go_enter Tryd.func90, Tryd.ntmps90
 go_wp2
 rw [← hW]
 clear hW
 try simp only [Act.put]
 go_cut [5] from 13 (fun s5 wc => ∃ (Xa : Nat), s5 = .pointer (some ⟨Xa, 0, none⟩) ∧ Arr wc Xa 82 (I64 la) ∧ Below w.heap.size w wc ∧ Arr wc w.heap.size 108 (I64 P.cells) ∧ Arr wc (w.heap.size + 1) 108 (I64 Q.cells) ∧ Arr wc (w.heap.size + 2) 108 (I64 Z64))
 case first =>
  have bD : Below W.heap.size W W.drew := (Below.refl _ _).drew
  replace fr := fr.trans (bD.mono fr.size)
  replace pa := pa.kept bD
  replace pb := pb.kept bD
  replace pr := pr.kept bD
  clear bD
  refine wp_region_held_drew (S := fun W => W.rangeAt (w.heap.size) 16 (I64 P.b) ∧ W.rangeAt (w.heap.size) 0 (I64 P.a) ∧ W.rangeAt (w.heap.size + 1) 16 (I64 Q.b) ∧ W.rangeAt (w.heap.size + 1) 0 (I64 Q.a)) (by kernel_rfl) ⟨E4.rb hP pa, E4.ra pa, E4.rb hQ pb, E4.ra pb⟩ (fun hHeld => ?_)
  obtain ⟨D1, hD⟩ : ∃ V, V = W.drew := ⟨_, rfl⟩
  rw [← hD] at hHeld fr pa pb pr ⊢
  clear hD
  refine wpAnyH_take (i := 0) (oi := { dst := some 13, op := Op.fieldAddr 108 (Operand.tmp 2) 1, type := 0, pos := "l06_point.go:35", after := #[], guard := none }) (v := .pointer (some ⟨w.heap.size, 16, none⟩)) rfl (by kernel_rfl) (by kernel_rfl) (by kernel_rfl) (fun _ _ _ h => h) (.inl ⟨by rfl, fun _ _ => by rfl⟩) (by assumption) ?_
  simp only [Act.put, List.setIfInBounds_toArray, List.set_cons_zero, List.set_cons_succ]
  refine wpAnyH_take (i := 1) (oi := { dst := some 14, op := Op.load 82 (Operand.tmp 13), type := 82, pos := "l06_point.go:35", after := #[{ on := 0, ground := Ground.data }], guard := none }) (v := _) rfl (by kernel_rfl) (by kernel_rfl) (by kernel_rfl) (fun _ _ _ h => h) (yieldsIf_load_mid (by rfl) _ _ rfl _ _ rfl (I64 P.b) _ (fun _ h => h.1) hu rfl iPb) (by assumption) ?_
  simp only [Act.put, List.setIfInBounds_toArray, List.set_cons_zero, List.set_cons_succ]
  refine wpAnyH_take (i := 2) (oi := { dst := some 15, op := Op.fieldAddr 108 (Operand.tmp 2) 0, type := 0, pos := "l06_point.go:35", after := #[], guard := none }) (v := .pointer (some ⟨w.heap.size, 0, none⟩)) rfl (by kernel_rfl) (by kernel_rfl) (by kernel_rfl) (fun _ _ _ h => h) (.inl ⟨by rfl, fun _ _ => by rfl⟩) (by assumption) ?_
  simp only [Act.put, List.setIfInBounds_toArray, List.set_cons_zero, List.set_cons_succ]
  refine wpAnyH_take (i := 3) (oi := { dst := some 16, op := Op.load 82 (Operand.tmp 15), type := 82, pos := "l06_point.go:35", after := #[{ on := 2, ground := Ground.data }], guard := none }) (v := _) rfl (by kernel_rfl) (by kernel_rfl) (by kernel_rfl) (fun _ _ _ h => h) (yieldsIf_load_mid (by rfl) _ _ rfl _ _ rfl (I64 P.a) _ (fun _ h => h.2.1) hu rfl iPa) (by assumption) ?_
  simp only [Act.put, List.setIfInBounds_toArray, List.set_cons_zero, List.set_cons_succ]
  refine wpAnyH_take (i := 5) (oi := { dst := some 18, op := Op.fieldAddr 108 (Operand.tmp 3) 1, type := 0, pos := "l06_point.go:35", after := #[], guard := none }) (v := .pointer (some ⟨w.heap.size + 1, 16, none⟩)) rfl (by kernel_rfl) (by kernel_rfl) (by kernel_rfl) (fun _ _ _ h => h) (.inl ⟨by rfl, fun _ _ => by rfl⟩) (by assumption) ?_
  simp only [Act.put, List.setIfInBounds_toArray, List.set_cons_zero, List.set_cons_succ]
  refine wpAnyH_take (i := 6) (oi := { dst := some 19, op := Op.load 82 (Operand.tmp 18), type := 82, pos := "l06_point.go:35", after := #[{ on := 5, ground := Ground.data }], guard := none }) (v := _) rfl (by kernel_rfl) (by kernel_rfl) (by kernel_rfl) (fun _ _ _ h => h) (yieldsIf_load_mid (by rfl) _ _ rfl _ _ rfl (I64 Q.b) _ (fun _ h => h.2.2.1) hu rfl iQb) (by assumption) ?_
  simp only [Act.put, List.setIfInBounds_toArray, List.set_cons_zero, List.set_cons_succ]
  refine wpAnyH_take (i := 7) (oi := { dst := some 20, op := Op.fieldAddr 108 (Operand.tmp 3) 0, type := 0, pos := "l06_point.go:35", after := #[], guard := none }) (v := .pointer (some ⟨w.heap.size + 1, 0, none⟩)) rfl (by kernel_rfl) (by kernel_rfl) (by kernel_rfl) (fun _ _ _ h => h) (.inl ⟨by rfl, fun _ _ => by rfl⟩) (by assumption) ?_
  simp only [Act.put, List.setIfInBounds_toArray, List.set_cons_zero, List.set_cons_succ]
  refine wpAnyH_take (i := 8) (oi := { dst := some 21, op := Op.load 82 (Operand.tmp 20), type := 82, pos := "l06_point.go:35", after := #[{ on := 7, ground := Ground.data }], guard := none }) (v := _) rfl (by kernel_rfl) (by kernel_rfl) (by kernel_rfl) (fun _ _ _ h => h) (yieldsIf_load_mid (by rfl) _ _ rfl _ _ rfl (I64 Q.a) _ (fun _ h => h.2.2.2) hu rfl iQa) (by assumption) ?_
  simp only [Act.put, List.setIfInBounds_toArray, List.set_cons_zero, List.set_cons_succ]
  refine wpAnyH_ready (rs := [4, 11]) (by kernel_rfl) (by simp) (AllReadyH.cons (o := { dst := some 17, op := Op.call { callee := Callee.value (Operand.func 110), args := #[Operand.tmp 14, Operand.tmp 16], argTypes := #[82, 82] }, type := 82, pos := "l06_point.go:35", after := #[{ on := 1, ground := Ground.data }, { on := 3, ground := Ground.data }], guard := none }) rfl (fun K hK => ?_) (AllReadyH.cons (o := { dst := some 5, op := Op.alloc 82, type := 0, pos := "l06_point.go:35", after := #[], guard := none }) rfl (fun K hK => ?_) AllReadyH.nil))
  ·skip
   go_simp
   refine (Hs1.out _).mono ?_
   rintro e y2 ⟨rfl, hb2⟩
   replace fr := fr.trans (hb2.mono fr.size)
   replace pa := pa.kept hb2
   replace pb := pb.kept hb2
   replace pr := pr.kept hb2
   clear hb2
   go_wp2_with fail
   refine hK.out _ _ ⟨E4.rb hP pa, E4.ra pa, E4.rb hQ pb, E4.ra pb⟩ (fun hHeld => ?_)
   clear hK K
   refine wpAnyH_ready (rs := [9, 11]) (by kernel_rfl) (by simp) (AllReadyH.cons (o := { dst := some 22, op := Op.call { callee := Callee.value (Operand.func 110), args := #[Operand.tmp 19, Operand.tmp 21], argTypes := #[82, 82] }, type := 82, pos := "l06_point.go:35", after := #[{ on := 6, ground := Ground.data }, { on := 8, ground := Ground.data }, { on := 4, ground := Ground.chain }], guard := none }) rfl (fun K hK => ?_) (AllReadyH.cons (o := { dst := some 5, op := Op.alloc 82, type := 0, pos := "l06_point.go:35", after := #[], guard := none }) rfl (fun K hK => ?_) AllReadyH.nil))
   ·skip
    go_simp
    refine (Hs2.out _).mono ?_
    rintro e y3 ⟨rfl, hb3⟩
    replace fr := fr.trans (hb3.mono fr.size)
    replace pa := pa.kept hb3
    replace pb := pb.kept hb3
    replace pr := pr.kept hb3
    clear hb3
    go_wp2_with fail
    refine hK.out _ _ ⟨E4.rb hP pa, E4.ra pa, E4.rb hQ pb, E4.ra pb⟩ (fun hHeld => ?_)
    clear hK K
    refine wpAnyH_ready (rs := [10, 11]) (by kernel_rfl) (by simp) (AllReadyH.cons (o := { dst := some 23, op := Op.call { callee := Callee.value (Operand.func 109), args := #[Operand.tmp 17, Operand.tmp 22], argTypes := #[82, 82] }, type := 82, pos := "l06_point.go:35", after := #[{ on := 4, ground := Ground.data }, { on := 9, ground := Ground.data }, { on := 9, ground := Ground.chain }], guard := none }) rfl (fun K hK => ?_) (AllReadyH.cons (o := { dst := some 5, op := Op.alloc 82, type := 0, pos := "l06_point.go:35", after := #[], guard := none }) rfl (fun K hK => ?_) AllReadyH.nil))
    ·skip
     go_simp
     refine (Ha.out _).mono ?_
     rintro e y4 ⟨rfl, hb4⟩
     replace fr := fr.trans (hb4.mono fr.size)
     replace pa := pa.kept hb4
     replace pb := pb.kept hb4
     replace pr := pr.kept hb4
     clear hb4
     go_wp2_with fail
     refine hK.out _ _ ⟨E4.rb hP pa, E4.ra pa, E4.rb hQ pb, E4.ra pb⟩ (fun hHeld => ?_)
     clear hK K
     refine wpAnyH_ready (rs := [11]) (by kernel_rfl) (by simp) (AllReadyH.cons (o := { dst := some 5, op := Op.alloc 82, type := 0, pos := "l06_point.go:35", after := #[], guard := none }) rfl (fun K hK => ?_) AllReadyH.nil)
     go_simp
     obtain ⟨V5, hVe⟩ : ∃ V, V = y4.alloc (.cells #[.int .i64 0, .int .i64 0, .int .i64 0, .int .i64 0, .int .i64 0, .int .i64 0, .int .i64 0, .int .i64 0, .int .i64 0, .int .i64 0, .int .i64 0, .int .i64 0, .int .i64 0, .int .i64 0, .int .i64 0, .int .i64 0] 82) := ⟨_, rfl⟩
     have bV : Below y4.heap.size y4 V5 := by rw [hVe]; exact (Below.refl _ _).alloc (Nat.le_refl _) _
     have Aa : Arr V5 y4.heap.size 82 (I64 Z16) := by rw [hVe]; exact Arr.new _ (I64 Z16) _
     have hXa : w.heap.size < y4.heap.size ∧ (w.heap.size + 1) < y4.heap.size ∧ (w.heap.size + 2) < y4.heap.size ∧ True := ⟨pa.lt, pb.lt, pr.lt, trivial⟩
     obtain ⟨Xa, hXe⟩ : ∃ X, X = y4.heap.size := ⟨_, rfl⟩
     replace fr := fr.trans (bV.mono fr.size)
     replace pa := pa.kept bV
     replace pb := pb.kept bV
     replace pr := pr.kept bV
     rw [← hVe]
     rw [← hXe] at Aa hXa ⊢
     clear hVe hXe bV
     refine hK.out _ _ ⟨E4.rb hP pa, E4.ra pa, E4.rb hQ pb, E4.ra pb⟩ (fun hHeld => ?_)
     clear hK K
     refine wpAnyH_ready (rs := [12]) (by kernel_rfl) (by simp) (AllReadyH.cons (o := qUd0) rfl (fun K hK => ?_) AllReadyH.nil)
     rw [if_pos (by rfl)]
     refine wp_store_mid _ _ _ rfl _ _ (I64 la).toArray rfl rfl (by have := arr_there Aa; simpa [na] using this) ja (all_oneCell_toArray ua) ?_
     simp only [Act.put]
     replace fr := bel_sc fr Xa (I64 la) (by omega)
     replace pa := pa.sc Xa (I64 la) (by omega)
     replace pb := pb.sc Xa (I64 la) (by omega)
     replace pr := pr.sc Xa (I64 la) (by omega)
     replace Aa := Aa.sc0 (I64 la) (by simp [na])
     obtain ⟨V6, hVe⟩ : ∃ V, V = V5.setCells Xa 0 (I64 la) := ⟨_, rfl⟩
     rw [← hVe] at fr pa pb pr Aa ⊢
     clear hVe
     refine hK.out _ _ ⟨E4.rb hP pa, E4.ra pa, E4.rb hQ pb, E4.ra pb⟩ (fun hHeld => ?_)
     clear hK K
     refine wpAnyH_done (by kernel_rfl) ?_ _
     go_wp2
     go_meet
     case rel => exact ⟨Xa, rfl, Aa, fr, pa, pb, pr⟩
    ·skip
     go_simp
     obtain ⟨V7, hVe⟩ : ∃ V, V = y3.alloc (.cells #[.int .i64 0, .int .i64 0, .int .i64 0, .int .i64 0, .int .i64 0, .int .i64 0, .int .i64 0, .int .i64 0, .int .i64 0, .int .i64 0, .int .i64 0, .int .i64 0, .int .i64 0, .int .i64 0, .int .i64 0, .int .i64 0] 82) := ⟨_, rfl⟩
     have bV : Below y3.heap.size y3 V7 := by rw [hVe]; exact (Below.refl _ _).alloc (Nat.le_refl _) _
     have Aa : Arr V7 y3.heap.size 82 (I64 Z16) := by rw [hVe]; exact Arr.new _ (I64 Z16) _
     have hXa : w.heap.size < y3.heap.size ∧ (w.heap.size + 1) < y3.heap.size ∧ (w.heap.size + 2) < y3.heap.size ∧ True := ⟨pa.lt, pb.lt, pr.lt, trivial⟩
     obtain ⟨Xa, hXe⟩ : ∃ X, X = y3.heap.size := ⟨_, rfl⟩
     replace fr := fr.trans (bV.mono fr.size)
     replace pa := pa.kept bV
     replace pb := pb.kept bV
     replace pr := pr.kept bV
     rw [← hVe]
     rw [← hXe] at Aa hXa ⊢
     clear hVe hXe bV
     refine hK.out _ _ ⟨E4.rb hP pa, E4.ra pa, E4.rb hQ pb, E4.ra pb⟩ (fun hHeld => ?_)
     clear hK K
     refine wpAnyH_ready (rs := [10]) (by kernel_rfl) (by simp) (AllReadyH.cons (o := { dst := some 23, op := Op.call { callee := Callee.value (Operand.func 109), args := #[Operand.tmp 17, Operand.tmp 22], argTypes := #[82, 82] }, type := 82, pos := "l06_point.go:35", after := #[{ on := 4, ground := Ground.data }, { on := 9, ground := Ground.data }, { on := 9, ground := Ground.chain }], guard := none }) rfl (fun K hK => ?_) AllReadyH.nil)
     go_simp
     refine (Ha.out _).mono ?_
     rintro e y8 ⟨rfl, hb8⟩
     replace fr := fr.trans (hb8.mono fr.size)
     replace pa := pa.kept hb8
     replace pb := pb.kept hb8
     replace pr := pr.kept hb8
     replace Aa := Aa.kept hb8
     clear hb8
     go_wp2_with fail
     refine hK.out _ _ ⟨E4.rb hP pa, E4.ra pa, E4.rb hQ pb, E4.ra pb⟩ (fun hHeld => ?_)
     clear hK K
     refine wpAnyH_ready (rs := [12]) (by kernel_rfl) (by simp) (AllReadyH.cons (o := qUd0) rfl (fun K hK => ?_) AllReadyH.nil)
     rw [if_pos (by rfl)]
     refine wp_store_mid _ _ _ rfl _ _ (I64 la).toArray rfl rfl (by have := arr_there Aa; simpa [na] using this) ja (all_oneCell_toArray ua) ?_
     simp only [Act.put]
     replace fr := bel_sc fr Xa (I64 la) (by omega)
     replace pa := pa.sc Xa (I64 la) (by omega)
     replace pb := pb.sc Xa (I64 la) (by omega)
     replace pr := pr.sc Xa (I64 la) (by omega)
     replace Aa := Aa.sc0 (I64 la) (by simp [na])
     obtain ⟨V9, hVe⟩ : ∃ V, V = y8.setCells Xa 0 (I64 la) := ⟨_, rfl⟩
     rw [← hVe] at fr pa pb pr Aa ⊢
     clear hVe
     refine hK.out _ _ ⟨E4.rb hP pa, E4.ra pa, E4.rb hQ pb, E4.ra pb⟩ (fun hHeld => ?_)
     clear hK K
     refine wpAnyH_done (by kernel_rfl) ?_ _
     go_wp2
     go_meet
     case rel => exact ⟨Xa, rfl, Aa, fr, pa, pb, pr⟩
   ·skip
    go_simp
    obtain ⟨V10, hVe⟩ : ∃ V, V = y2.alloc (.cells #[.int .i64 0, .int .i64 0, .int .i64 0, .int .i64 0, .int .i64 0, .int .i64 0, .int .i64 0, .int .i64 0, .int .i64 0, .int .i64 0, .int .i64 0, .int .i64 0, .int .i64 0, .int .i64 0, .int .i64 0, .int .i64 0] 82) := ⟨_, rfl⟩
    have bV : Below y2.heap.size y2 V10 := by rw [hVe]; exact (Below.refl _ _).alloc (Nat.le_refl _) _
    have Aa : Arr V10 y2.heap.size 82 (I64 Z16) := by rw [hVe]; exact Arr.new _ (I64 Z16) _
    have hXa : w.heap.size < y2.heap.size ∧ (w.heap.size + 1) < y2.heap.size ∧ (w.heap.size + 2) < y2.heap.size ∧ True := ⟨pa.lt, pb.lt, pr.lt, trivial⟩
    obtain ⟨Xa, hXe⟩ : ∃ X, X = y2.heap.size := ⟨_, rfl⟩
    replace fr := fr.trans (bV.mono fr.size)
    replace pa := pa.kept bV
    replace pb := pb.kept bV
    replace pr := pr.kept bV
    rw [← hVe]
    rw [← hXe] at Aa hXa ⊢
    clear hVe hXe bV
    refine hK.out _ _ ⟨E4.rb hP pa, E4.ra pa, E4.rb hQ pb, E4.ra pb⟩ (fun hHeld => ?_)
    clear hK K
    refine wpAnyH_ready (rs := [9]) (by kernel_rfl) (by simp) (AllReadyH.cons (o := { dst := some 22, op := Op.call { callee := Callee.value (Operand.func 110), args := #[Operand.tmp 19, Operand.tmp 21], argTypes := #[82, 82] }, type := 82, pos := "l06_point.go:35", after := #[{ on := 6, ground := Ground.data }, { on := 8, ground := Ground.data }, { on := 4, ground := Ground.chain }], guard := none }) rfl (fun K hK => ?_) AllReadyH.nil)
    go_simp
    refine (Hs2.out _).mono ?_
    rintro e y11 ⟨rfl, hb11⟩
    replace fr := fr.trans (hb11.mono fr.size)
    replace pa := pa.kept hb11
    replace pb := pb.kept hb11
    replace pr := pr.kept hb11
    replace Aa := Aa.kept hb11
    clear hb11
    go_wp2_with fail
    refine hK.out _ _ ⟨E4.rb hP pa, E4.ra pa, E4.rb hQ pb, E4.ra pb⟩ (fun hHeld => ?_)
    clear hK K
    refine wpAnyH_ready (rs := [10]) (by kernel_rfl) (by simp) (AllReadyH.cons (o := { dst := some 23, op := Op.call { callee := Callee.value (Operand.func 109), args := #[Operand.tmp 17, Operand.tmp 22], argTypes := #[82, 82] }, type := 82, pos := "l06_point.go:35", after := #[{ on := 4, ground := Ground.data }, { on := 9, ground := Ground.data }, { on := 9, ground := Ground.chain }], guard := none }) rfl (fun K hK => ?_) AllReadyH.nil)
    go_simp
    refine (Ha.out _).mono ?_
    rintro e y12 ⟨rfl, hb12⟩
    replace fr := fr.trans (hb12.mono fr.size)
    replace pa := pa.kept hb12
    replace pb := pb.kept hb12
    replace pr := pr.kept hb12
    replace Aa := Aa.kept hb12
    clear hb12
    go_wp2_with fail
    refine hK.out _ _ ⟨E4.rb hP pa, E4.ra pa, E4.rb hQ pb, E4.ra pb⟩ (fun hHeld => ?_)
    clear hK K
    refine wpAnyH_ready (rs := [12]) (by kernel_rfl) (by simp) (AllReadyH.cons (o := qUd0) rfl (fun K hK => ?_) AllReadyH.nil)
    rw [if_pos (by rfl)]
    refine wp_store_mid _ _ _ rfl _ _ (I64 la).toArray rfl rfl (by have := arr_there Aa; simpa [na] using this) ja (all_oneCell_toArray ua) ?_
    simp only [Act.put]
    replace fr := bel_sc fr Xa (I64 la) (by omega)
    replace pa := pa.sc Xa (I64 la) (by omega)
    replace pb := pb.sc Xa (I64 la) (by omega)
    replace pr := pr.sc Xa (I64 la) (by omega)
    replace Aa := Aa.sc0 (I64 la) (by simp [na])
    obtain ⟨V13, hVe⟩ : ∃ V, V = y12.setCells Xa 0 (I64 la) := ⟨_, rfl⟩
    rw [← hVe] at fr pa pb pr Aa ⊢
    clear hVe
    refine hK.out _ _ ⟨E4.rb hP pa, E4.ra pa, E4.rb hQ pb, E4.ra pb⟩ (fun hHeld => ?_)
    clear hK K
    refine wpAnyH_done (by kernel_rfl) ?_ _
    go_wp2
    go_meet
    case rel => exact ⟨Xa, rfl, Aa, fr, pa, pb, pr⟩
  ·skip
   go_simp
   obtain ⟨V14, hVe⟩ : ∃ V, V = D1.alloc (.cells #[.int .i64 0, .int .i64 0, .int .i64 0, .int .i64 0, .int .i64 0, .int .i64 0, .int .i64 0, .int .i64 0, .int .i64 0, .int .i64 0, .int .i64 0, .int .i64 0, .int .i64 0, .int .i64 0, .int .i64 0, .int .i64 0] 82) := ⟨_, rfl⟩
   have bV : Below D1.heap.size D1 V14 := by rw [hVe]; exact (Below.refl _ _).alloc (Nat.le_refl _) _
   have Aa : Arr V14 D1.heap.size 82 (I64 Z16) := by rw [hVe]; exact Arr.new _ (I64 Z16) _
   have hXa : w.heap.size < D1.heap.size ∧ (w.heap.size + 1) < D1.heap.size ∧ (w.heap.size + 2) < D1.heap.size ∧ True := ⟨pa.lt, pb.lt, pr.lt, trivial⟩
   obtain ⟨Xa, hXe⟩ : ∃ X, X = D1.heap.size := ⟨_, rfl⟩
   replace fr := fr.trans (bV.mono fr.size)
   replace pa := pa.kept bV
   replace pb := pb.kept bV
   replace pr := pr.kept bV
   rw [← hVe]
   rw [← hXe] at Aa hXa ⊢
   clear hVe hXe bV
   refine hK.out _ _ ⟨E4.rb hP pa, E4.ra pa, E4.rb hQ pb, E4.ra pb⟩ (fun hHeld => ?_)
   clear hK K
   refine wpAnyH_ready (rs := [4]) (by kernel_rfl) (by simp) (AllReadyH.cons (o := { dst := some 17, op := Op.call { callee := Callee.value (Operand.func 110), args := #[Operand.tmp 14, Operand.tmp 16], argTypes := #[82, 82] }, type := 82, pos := "l06_point.go:35", after := #[{ on := 1, ground := Ground.data }, { on := 3, ground := Ground.data }], guard := none }) rfl (fun K hK => ?_) AllReadyH.nil)
   go_simp
   refine (Hs1.out _).mono ?_
   rintro e y15 ⟨rfl, hb15⟩
   replace fr := fr.trans (hb15.mono fr.size)
   replace pa := pa.kept hb15
   replace pb := pb.kept hb15
   replace pr := pr.kept hb15
   replace Aa := Aa.kept hb15
   clear hb15
   go_wp2_with fail
   refine hK.out _ _ ⟨E4.rb hP pa, E4.ra pa, E4.rb hQ pb, E4.ra pb⟩ (fun hHeld => ?_)
   clear hK K
   refine wpAnyH_ready (rs := [9]) (by kernel_rfl) (by simp) (AllReadyH.cons (o := { dst := some 22, op := Op.call { callee := Callee.value (Operand.func 110), args := #[Operand.tmp 19, Operand.tmp 21], argTypes := #[82, 82] }, type := 82, pos := "l06_point.go:35", after := #[{ on := 6, ground := Ground.data }, { on := 8, ground := Ground.data }, { on := 4, ground := Ground.chain }], guard := none }) rfl (fun K hK => ?_) AllReadyH.nil)
   go_simp
   refine (Hs2.out _).mono ?_
   rintro e y16 ⟨rfl, hb16⟩
   replace fr := fr.trans (hb16.mono fr.size)
   replace pa := pa.kept hb16
   replace pb := pb.kept hb16
   replace pr := pr.kept hb16
   replace Aa := Aa.kept hb16
   clear hb16
   go_wp2_with fail
   refine hK.out _ _ ⟨E4.rb hP pa, E4.ra pa, E4.rb hQ pb, E4.ra pb⟩ (fun hHeld => ?_)
   clear hK K
   refine wpAnyH_ready (rs := [10]) (by kernel_rfl) (by simp) (AllReadyH.cons (o := { dst := some 23, op := Op.call { callee := Callee.value (Operand.func 109), args := #[Operand.tmp 17, Operand.tmp 22], argTypes := #[82, 82] }, type := 82, pos := "l06_point.go:35", after := #[{ on := 4, ground := Ground.data }, { on := 9, ground := Ground.data }, { on := 9, ground := Ground.chain }], guard := none }) rfl (fun K hK => ?_) AllReadyH.nil)
   go_simp
   refine (Ha.out _).mono ?_
   rintro e y17 ⟨rfl, hb17⟩
   replace fr := fr.trans (hb17.mono fr.size)
   replace pa := pa.kept hb17
   replace pb := pb.kept hb17
   replace pr := pr.kept hb17
   replace Aa := Aa.kept hb17
   clear hb17
   go_wp2_with fail
   refine hK.out _ _ ⟨E4.rb hP pa, E4.ra pa, E4.rb hQ pb, E4.ra pb⟩ (fun hHeld => ?_)
   clear hK K
   refine wpAnyH_ready (rs := [12]) (by kernel_rfl) (by simp) (AllReadyH.cons (o := qUd0) rfl (fun K hK => ?_) AllReadyH.nil)
   rw [if_pos (by rfl)]
   refine wp_store_mid _ _ _ rfl _ _ (I64 la).toArray rfl rfl (by have := arr_there Aa; simpa [na] using this) ja (all_oneCell_toArray ua) ?_
   simp only [Act.put]
   replace fr := bel_sc fr Xa (I64 la) (by omega)
   replace pa := pa.sc Xa (I64 la) (by omega)
   replace pb := pb.sc Xa (I64 la) (by omega)
   replace pr := pr.sc Xa (I64 la) (by omega)
   replace Aa := Aa.sc0 (I64 la) (by simp [na])
   obtain ⟨V18, hVe⟩ : ∃ V, V = y17.setCells Xa 0 (I64 la) := ⟨_, rfl⟩
   rw [← hVe] at fr pa pb pr Aa ⊢
   clear hVe
   refine hK.out _ _ ⟨E4.rb hP pa, E4.ra pa, E4.rb hQ pb, E4.ra pb⟩ (fun hHeld => ?_)
   clear hK K
   refine wpAnyH_done (by kernel_rfl) ?_ _
   go_wp2
   go_meet
   case rel => exact ⟨Xa, rfl, Aa, fr, pa, pb, pr⟩
 case rest =>
  clear fr pa pb pr
  obtain ⟨Xa, rfl, Aa, fr, pa, pb, pr⟩ := hcut
  obtain ⟨C19, hwc⟩ : ∃ V, V = wc := ⟨_, rfl⟩
  rw [← hwc] at fr pa pb pr Aa ⊢
  clear hwc
  go_wp2
  try simp only [Act.put]
  go_cut [6] from 13 (fun s6 wc => ∃ (Xb : Nat), s6 = .pointer (some ⟨Xb, 0, none⟩) ∧ Arr wc Xb 82 (I64 lb) ∧ Below w.heap.size w wc ∧ Arr wc w.heap.size 108 (I64 P.cells) ∧ Arr wc (w.heap.size + 1) 108 (I64 Q.cells) ∧ Arr wc (w.heap.size + 2) 108 (I64 Z64) ∧ Arr wc Xa 82 (I64 la))
  case first =>
   have bD : Below C19.heap.size C19 C19.drew := (Below.refl _ _).drew
   replace fr := fr.trans (bD.mono fr.size)
   replace pa := pa.kept bD
   replace pb := pb.kept bD
   replace pr := pr.kept bD
   replace Aa := Aa.kept bD
   clear bD
   refine wp_region_held_drew (S := fun W => W.rangeAt (w.heap.size) 16 (I64 P.b) ∧ W.rangeAt (w.heap.size) 0 (I64 P.a) ∧ W.rangeAt (w.heap.size + 1) 16 (I64 Q.b) ∧ W.rangeAt (w.heap.size + 1) 0 (I64 Q.a)) (by kernel_rfl) ⟨E4.rb hP pa, E4.ra pa, E4.rb hQ pb, E4.ra pb⟩ (fun hHeld => ?_)
   obtain ⟨D20, hD⟩ : ∃ V, V = C19.drew := ⟨_, rfl⟩
   rw [← hD] at hHeld fr pa pb pr Aa ⊢
   clear hD
   refine wpAnyH_take (i := 0) (oi := { dst := some 24, op := Op.fieldAddr 108 (Operand.tmp 2) 1, type := 0, pos := "l06_point.go:36", after := #[], guard := none }) (v := .pointer (some ⟨w.heap.size, 16, none⟩)) rfl (by kernel_rfl) (by kernel_rfl) (by kernel_rfl) (fun _ _ _ h => h) (.inl ⟨by rfl, fun _ _ => by rfl⟩) (by assumption) ?_
   simp only [Act.put, List.setIfInBounds_toArray, List.set_cons_zero, List.set_cons_succ]
   refine wpAnyH_take (i := 1) (oi := { dst := some 25, op := Op.load 82 (Operand.tmp 24), type := 82, pos := "l06_point.go:36", after := #[{ on := 0, ground := Ground.data }], guard := none }) (v := _) rfl (by kernel_rfl) (by kernel_rfl) (by kernel_rfl) (fun _ _ _ h => h) (yieldsIf_load_mid (by rfl) _ _ rfl _ _ rfl (I64 P.b) _ (fun _ h => h.1) hu rfl iPb) (by assumption) ?_
   simp only [Act.put, List.setIfInBounds_toArray, List.set_cons_zero, List.set_cons_succ]
   refine wpAnyH_take (i := 2) (oi := { dst := some 26, op := Op.fieldAddr 108 (Operand.tmp 2) 0, type := 0, pos := "l06_point.go:36", after := #[], guard := none }) (v := .pointer (some ⟨w.heap.size, 0, none⟩)) rfl (by kernel_rfl) (by kernel_rfl) (by kernel_rfl) (fun _ _ _ h => h) (.inl ⟨by rfl, fun _ _ => by rfl⟩) (by assumption) ?_
   simp only [Act.put, List.setIfInBounds_toArray, List.set_cons_zero, List.set_cons_succ]
   refine wpAnyH_take (i := 3) (oi := { dst := some 27, op := Op.load 82 (Operand.tmp 26), type := 82, pos := "l06_point.go:36", after := #[{ on := 2, ground := Ground.data }], guard := none }) (v := _) rfl (by kernel_rfl) (by kernel_rfl) (by kernel_rfl) (fun _ _ _ h => h) (yieldsIf_load_mid (by rfl) _ _ rfl _ _ rfl (I64 P.a) _ (fun _ h => h.2.1) hu rfl iPa) (by assumption) ?_
   simp only [Act.put, List.setIfInBounds_toArray, List.set_cons_zero, List.set_cons_succ]
   refine wpAnyH_take (i := 5) (oi := { dst := some 29, op := Op.fieldAddr 108 (Operand.tmp 3) 1, type := 0, pos := "l06_point.go:36", after := #[], guard := none }) (v := .pointer (some ⟨w.heap.size + 1, 16, none⟩)) rfl (by kernel_rfl) (by kernel_rfl) (by kernel_rfl) (fun _ _ _ h => h) (.inl ⟨by rfl, fun _ _ => by rfl⟩) (by assumption) ?_
   simp only [Act.put, List.setIfInBounds_toArray, List.set_cons_zero, List.set_cons_succ]
   refine wpAnyH_take (i := 6) (oi := { dst := some 30, op := Op.load 82 (Operand.tmp 29), type := 82, pos := "l06_point.go:36", after := #[{ on := 5, ground := Ground.data }], guard := none }) (v := _) rfl (by kernel_rfl) (by kernel_rfl) (by kernel_rfl) (fun _ _ _ h => h) (yieldsIf_load_mid (by rfl) _ _ rfl _ _ rfl (I64 Q.b) _ (fun _ h => h.2.2.1) hu rfl iQb) (by assumption) ?_
   simp only [Act.put, List.setIfInBounds_toArray, List.set_cons_zero, List.set_cons_succ]
   refine wpAnyH_take (i := 7) (oi := { dst := some 31, op := Op.fieldAddr 108 (Operand.tmp 3) 0, type := 0, pos := "l06_point.go:36", after := #[], guard := none }) (v := .pointer (some ⟨w.heap.size + 1, 0, none⟩)) rfl (by kernel_rfl) (by kernel_rfl) (by kernel_rfl) (fun _ _ _ h => h) (.inl ⟨by rfl, fun _ _ => by rfl⟩) (by assumption) ?_
   simp only [Act.put, List.setIfInBounds_toArray, List.set_cons_zero, List.set_cons_succ]
   refine wpAnyH_take (i := 8) (oi := { dst := some 32, op := Op.load 82 (Operand.tmp 31), type := 82, pos := "l06_point.go:36", after := #[{ on := 7, ground := Ground.data }], guard := none }) (v := _) rfl (by kernel_rfl) (by kernel_rfl) (by kernel_rfl) (fun _ _ _ h => h) (yieldsIf_load_mid (by rfl) _ _ rfl _ _ rfl (I64 Q.a) _ (fun _ h => h.2.2.2) hu rfl iQa) (by assumption) ?_
   simp only [Act.put, List.setIfInBounds_toArray, List.set_cons_zero, List.set_cons_succ]
   refine wpAnyH_ready (rs := [4, 11]) (by kernel_rfl) (by simp) (AllReadyH.cons (o := { dst := some 28, op := Op.call { callee := Callee.value (Operand.func 111), args := #[Operand.tmp 25, Operand.tmp 27], argTypes := #[82, 82] }, type := 82, pos := "l06_point.go:36", after := #[{ on := 1, ground := Ground.data }, { on := 3, ground := Ground.data }], guard := none }) rfl (fun K hK => ?_) (AllReadyH.cons (o := { dst := some 6, op := Op.alloc 82, type := 0, pos := "l06_point.go:36", after := #[], guard := none }) rfl (fun K hK => ?_) AllReadyH.nil))
   ·skip
    go_simp
    refine (Hs3.out _).mono ?_
    rintro e y21 ⟨rfl, hb21⟩
    replace fr := fr.trans (hb21.mono fr.size)
    replace pa := pa.kept hb21
    replace pb := pb.kept hb21
    replace pr := pr.kept hb21
    replace Aa := Aa.kept hb21
    clear hb21
    go_wp2_with fail
    refine hK.out _ _ ⟨E4.rb hP pa, E4.ra pa, E4.rb hQ pb, E4.ra pb⟩ (fun hHeld => ?_)
    clear hK K
    refine wpAnyH_ready (rs := [9, 11]) (by kernel_rfl) (by simp) (AllReadyH.cons (o := { dst := some 33, op := Op.call { callee := Callee.value (Operand.func 111), args := #[Operand.tmp 30, Operand.tmp 32], argTypes := #[82, 82] }, type := 82, pos := "l06_point.go:36", after := #[{ on := 6, ground := Ground.data }, { on := 8, ground := Ground.data }, { on := 4, ground := Ground.chain }], guard := none }) rfl (fun K hK => ?_) (AllReadyH.cons (o := { dst := some 6, op := Op.alloc 82, type := 0, pos := "l06_point.go:36", after := #[], guard := none }) rfl (fun K hK => ?_) AllReadyH.nil))
    ·skip
     go_simp
     refine (Hs4.out _).mono ?_
     rintro e y22 ⟨rfl, hb22⟩
     replace fr := fr.trans (hb22.mono fr.size)
     replace pa := pa.kept hb22
     replace pb := pb.kept hb22
     replace pr := pr.kept hb22
     replace Aa := Aa.kept hb22
     clear hb22
     go_wp2_with fail
     refine hK.out _ _ ⟨E4.rb hP pa, E4.ra pa, E4.rb hQ pb, E4.ra pb⟩ (fun hHeld => ?_)
     clear hK K
     refine wpAnyH_ready (rs := [10, 11]) (by kernel_rfl) (by simp) (AllReadyH.cons (o := { dst := some 34, op := Op.call { callee := Callee.value (Operand.func 109), args := #[Operand.tmp 28, Operand.tmp 33], argTypes := #[82, 82] }, type := 82, pos := "l06_point.go:36", after := #[{ on := 4, ground := Ground.data }, { on := 9, ground := Ground.data }, { on := 9, ground := Ground.chain }], guard := none }) rfl (fun K hK => ?_) (AllReadyH.cons (o := { dst := some 6, op := Op.alloc 82, type := 0, pos := "l06_point.go:36", after := #[], guard := none }) rfl (fun K hK => ?_) AllReadyH.nil))
     ·skip
      go_simp
      refine (Hb.out _).mono ?_
      rintro e y23 ⟨rfl, hb23⟩
      replace fr := fr.trans (hb23.mono fr.size)
      replace pa := pa.kept hb23
      replace pb := pb.kept hb23
      replace pr := pr.kept hb23
      replace Aa := Aa.kept hb23
      clear hb23
      go_wp2_with fail
      refine hK.out _ _ ⟨E4.rb hP pa, E4.ra pa, E4.rb hQ pb, E4.ra pb⟩ (fun hHeld => ?_)
      clear hK K
      refine wpAnyH_ready (rs := [11]) (by kernel_rfl) (by simp) (AllReadyH.cons (o := { dst := some 6, op := Op.alloc 82, type := 0, pos := "l06_point.go:36", after := #[], guard := none }) rfl (fun K hK => ?_) AllReadyH.nil)
      go_simp
      obtain ⟨V24, hVe⟩ : ∃ V, V = y23.alloc (.cells #[.int .i64 0, .int .i64 0, .int .i64 0, .int .i64 0, .int .i64 0, .int .i64 0, .int .i64 0, .int .i64 0, .int .i64 0, .int .i64 0, .int .i64 0, .int .i64 0, .int .i64 0, .int .i64 0, .int .i64 0, .int .i64 0] 82) := ⟨_, rfl⟩
      have bV : Below y23.heap.size y23 V24 := by rw [hVe]; exact (Below.refl _ _).alloc (Nat.le_refl _) _
      have Ab : Arr V24 y23.heap.size 82 (I64 Z16) := by rw [hVe]; exact Arr.new _ (I64 Z16) _
      have hXb : w.heap.size < y23.heap.size ∧ (w.heap.size + 1) < y23.heap.size ∧ (w.heap.size + 2) < y23.heap.size ∧ Xa < y23.heap.size ∧ True := ⟨pa.lt, pb.lt, pr.lt, Aa.lt, trivial⟩
      obtain ⟨Xb, hXe⟩ : ∃ X, X = y23.heap.size := ⟨_, rfl⟩
      replace fr := fr.trans (bV.mono fr.size)
      replace pa := pa.kept bV
      replace pb := pb.kept bV
      replace pr := pr.kept bV
      replace Aa := Aa.kept bV
      rw [← hVe]
      rw [← hXe] at Ab hXb ⊢
      clear hVe hXe bV
      refine hK.out _ _ ⟨E4.rb hP pa, E4.ra pa, E4.rb hQ pb, E4.ra pb⟩ (fun hHeld => ?_)
      clear hK K
      refine wpAnyH_ready (rs := [12]) (by kernel_rfl) (by simp) (AllReadyH.cons (o := qUd1) rfl (fun K hK => ?_) AllReadyH.nil)
      rw [if_pos (by rfl)]
      refine wp_store_mid _ _ _ rfl _ _ (I64 lb).toArray rfl rfl (by have := arr_there Ab; simpa [nb] using this) jb (all_oneCell_toArray ub) ?_
      simp only [Act.put]
      replace fr := bel_sc fr Xb (I64 lb) (by omega)
      replace pa := pa.sc Xb (I64 lb) (by omega)
      replace pb := pb.sc Xb (I64 lb) (by omega)
      replace pr := pr.sc Xb (I64 lb) (by omega)
      replace Aa := Aa.sc Xb (I64 lb) (by omega)
      replace Ab := Ab.sc0 (I64 lb) (by simp [nb])
      obtain ⟨V25, hVe⟩ : ∃ V, V = V24.setCells Xb 0 (I64 lb) := ⟨_, rfl⟩
      rw [← hVe] at fr pa pb pr Aa Ab ⊢
      clear hVe
      refine hK.out _ _ ⟨E4.rb hP pa, E4.ra pa, E4.rb hQ pb, E4.ra pb⟩ (fun hHeld => ?_)
      clear hK K
      refine wpAnyH_done (by kernel_rfl) ?_ _
      go_wp2
      go_meet
      case rel => exact ⟨Xb, rfl, Ab, fr, pa, pb, pr, Aa⟩
     ·skip
      go_simp
      obtain ⟨V26, hVe⟩ : ∃ V, V = y22.alloc (.cells #[.int .i64 0, .int .i64 0, .int .i64 0, .int .i64 0, .int .i64 0, .int .i64 0, .int .i64 0, .int .i64 0, .int .i64 0, .int .i64 0, .int .i64 0, .int .i64 0, .int .i64 0, .int .i64 0, .int .i64 0, .int .i64 0] 82) := ⟨_, rfl⟩
      have bV : Below y22.heap.size y22 V26 := by rw [hVe]; exact (Below.refl _ _).alloc (Nat.le_refl _) _
      have Ab : Arr V26 y22.heap.size 82 (I64 Z16) := by rw [hVe]; exact Arr.new _ (I64 Z16) _
      have hXb : w.heap.size < y22.heap.size ∧ (w.heap.size + 1) < y22.heap.size ∧ (w.heap.size + 2) < y22.heap.size ∧ Xa < y22.heap.size ∧ True := ⟨pa.lt, pb.lt, pr.lt, Aa.lt, trivial⟩
      obtain ⟨Xb, hXe⟩ : ∃ X, X = y22.heap.size := ⟨_, rfl⟩
      replace fr := fr.trans (bV.mono fr.size)
      replace pa := pa.kept bV
      replace pb := pb.kept bV
      replace pr := pr.kept bV
      replace Aa := Aa.kept bV
      rw [← hVe]
      rw [← hXe] at Ab hXb ⊢
      clear hVe hXe bV
      refine hK.out _ _ ⟨E4.rb hP pa, E4.ra pa, E4.rb hQ pb, E4.ra pb⟩ (fun hHeld => ?_)
      clear hK K
      refine wpAnyH_ready (rs := [10]) (by kernel_rfl) (by simp) (AllReadyH.cons (o := { dst := some 34, op := Op.call { callee := Callee.value (Operand.func 109), args := #[Operand.tmp 28, Operand.tmp 33], argTypes := #[82, 82] }, type := 82, pos := "l06_point.go:36", after := #[{ on := 4, ground := Ground.data }, { on := 9, ground := Ground.data }, { on := 9, ground := Ground.chain }], guard := none }) rfl (fun K hK => ?_) AllReadyH.nil)
      go_simp
      refine (Hb.out _).mono ?_
      rintro e y27 ⟨rfl, hb27⟩
      replace fr := fr.trans (hb27.mono fr.size)
      replace pa := pa.kept hb27
      replace pb := pb.kept hb27
      replace pr := pr.kept hb27
      replace Aa := Aa.kept hb27
      replace Ab := Ab.kept hb27
      clear hb27
      go_wp2_with fail
      refine hK.out _ _ ⟨E4.rb hP pa, E4.ra pa, E4.rb hQ pb, E4.ra pb⟩ (fun hHeld => ?_)
      clear hK K
      refine wpAnyH_ready (rs := [12]) (by kernel_rfl) (by simp) (AllReadyH.cons (o := qUd1) rfl (fun K hK => ?_) AllReadyH.nil)
      rw [if_pos (by rfl)]
      refine wp_store_mid _ _ _ rfl _ _ (I64 lb).toArray rfl rfl (by have := arr_there Ab; simpa [nb] using this) jb (all_oneCell_toArray ub) ?_
      simp only [Act.put]
      replace fr := bel_sc fr Xb (I64 lb) (by omega)
      replace pa := pa.sc Xb (I64 lb) (by omega)
      replace pb := pb.sc Xb (I64 lb) (by omega)
      replace pr := pr.sc Xb (I64 lb) (by omega)
      replace Aa := Aa.sc Xb (I64 lb) (by omega)
      replace Ab := Ab.sc0 (I64 lb) (by simp [nb])
      obtain ⟨V28, hVe⟩ : ∃ V, V = y27.setCells Xb 0 (I64 lb) := ⟨_, rfl⟩
      rw [← hVe] at fr pa pb pr Aa Ab ⊢
      clear hVe
      refine hK.out _ _ ⟨E4.rb hP pa, E4.ra pa, E4.rb hQ pb, E4.ra pb⟩ (fun hHeld => ?_)
      clear hK K
      refine wpAnyH_done (by kernel_rfl) ?_ _
      go_wp2
      go_meet
      case rel => exact ⟨Xb, rfl, Ab, fr, pa, pb, pr, Aa⟩
    ·skip
     go_simp
     obtain ⟨V29, hVe⟩ : ∃ V, V = y21.alloc (.cells #[.int .i64 0, .int .i64 0, .int .i64 0, .int .i64 0, .int .i64 0, .int .i64 0, .int .i64 0, .int .i64 0, .int .i64 0, .int .i64 0, .int .i64 0, .int .i64 0, .int .i64 0, .int .i64 0, .int .i64 0, .int .i64 0] 82) := ⟨_, rfl⟩
     have bV : Below y21.heap.size y21 V29 := by rw [hVe]; exact (Below.refl _ _).alloc (Nat.le_refl _) _
     have Ab : Arr V29 y21.heap.size 82 (I64 Z16) := by rw [hVe]; exact Arr.new _ (I64 Z16) _
     have hXb : w.heap.size < y21.heap.size ∧ (w.heap.size + 1) < y21.heap.size ∧ (w.heap.size + 2) < y21.heap.size ∧ Xa < y21.heap.size ∧ True := ⟨pa.lt, pb.lt, pr.lt, Aa.lt, trivial⟩
     obtain ⟨Xb, hXe⟩ : ∃ X, X = y21.heap.size := ⟨_, rfl⟩
     replace fr := fr.trans (bV.mono fr.size)
     replace pa := pa.kept bV
     replace pb := pb.kept bV
     replace pr := pr.kept bV
     replace Aa := Aa.kept bV
     rw [← hVe]
     rw [← hXe] at Ab hXb ⊢
     clear hVe hXe bV
     refine hK.out _ _ ⟨E4.rb hP pa, E4.ra pa, E4.rb hQ pb, E4.ra pb⟩ (fun hHeld => ?_)
     clear hK K
     refine wpAnyH_ready (rs := [9]) (by kernel_rfl) (by simp) (AllReadyH.cons (o := { dst := some 33, op := Op.call { callee := Callee.value (Operand.func 111), args := #[Operand.tmp 30, Operand.tmp 32], argTypes := #[82, 82] }, type := 82, pos := "l06_point.go:36", after := #[{ on := 6, ground := Ground.data }, { on := 8, ground := Ground.data }, { on := 4, ground := Ground.chain }], guard := none }) rfl (fun K hK => ?_) AllReadyH.nil)
     go_simp
     refine (Hs4.out _).mono ?_
     rintro e y30 ⟨rfl, hb30⟩
     replace fr := fr.trans (hb30.mono fr.size)
     replace pa := pa.kept hb30
     replace pb := pb.kept hb30
     replace pr := pr.kept hb30
     replace Aa := Aa.kept hb30
     replace Ab := Ab.kept hb30
     clear hb30
     go_wp2_with fail
     refine hK.out _ _ ⟨E4.rb hP pa, E4.ra pa, E4.rb hQ pb, E4.ra pb⟩ (fun hHeld => ?_)
     clear hK K
     refine wpAnyH_ready (rs := [10]) (by kernel_rfl) (by simp) (AllReadyH.cons (o := { dst := some 34, op := Op.call { callee := Callee.value (Operand.func 109), args := #[Operand.tmp 28, Operand.tmp 33], argTypes := #[82, 82] }, type := 82, pos := "l06_point.go:36", after := #[{ on := 4, ground := Ground.data }, { on := 9, ground := Ground.data }, { on := 9, ground := Ground.chain }], guard := none }) rfl (fun K hK => ?_) AllReadyH.nil)
     go_simp
     refine (Hb.out _).mono ?_
     rintro e y31 ⟨rfl, hb31⟩
     replace fr := fr.trans (hb31.mono fr.size)
     replace pa := pa.kept hb31
     replace pb := pb.kept hb31
     replace pr := pr.kept hb31
     replace Aa := Aa.kept hb31
     replace Ab := Ab.kept hb31
     clear hb31
     go_wp2_with fail
     refine hK.out _ _ ⟨E4.rb hP pa, E4.ra pa, E4.rb hQ pb, E4.ra pb⟩ (fun hHeld => ?_)
     clear hK K
     refine wpAnyH_ready (rs := [12]) (by kernel_rfl) (by simp) (AllReadyH.cons (o := qUd1) rfl (fun K hK => ?_) AllReadyH.nil)
     rw [if_pos (by rfl)]
     refine wp_store_mid _ _ _ rfl _ _ (I64 lb).toArray rfl rfl (by have := arr_there Ab; simpa [nb] using this) jb (all_oneCell_toArray ub) ?_
     simp only [Act.put]
     replace fr := bel_sc fr Xb (I64 lb) (by omega)
     replace pa := pa.sc Xb (I64 lb) (by omega)
     replace pb := pb.sc Xb (I64 lb) (by omega)
     replace pr := pr.sc Xb (I64 lb) (by omega)
     replace Aa := Aa.sc Xb (I64 lb) (by omega)
     replace Ab := Ab.sc0 (I64 lb) (by simp [nb])
     obtain ⟨V32, hVe⟩ : ∃ V, V = y31.setCells Xb 0 (I64 lb) := ⟨_, rfl⟩
     rw [← hVe] at fr pa pb pr Aa Ab ⊢
     clear hVe
     refine hK.out _ _ ⟨E4.rb hP pa, E4.ra pa, E4.rb hQ pb, E4.ra pb⟩ (fun hHeld => ?_)
     clear hK K
     refine wpAnyH_done (by kernel_rfl) ?_ _
     go_wp2
     go_meet
     case rel => exact ⟨Xb, rfl, Ab, fr, pa, pb, pr, Aa⟩
   ·skip
    go_simp
    obtain ⟨V33, hVe⟩ : ∃ V, V = D20.alloc (.cells #[.int .i64 0, .int .i64 0, .int .i64 0, .int .i64 0, .int .i64 0, .int .i64 0, .int .i64 0, .int .i64 0, .int .i64 0, .int .i64 0, .int .i64 0, .int .i64 0, .int .i64 0, .int .i64 0, .int .i64 0, .int .i64 0] 82) := ⟨_, rfl⟩
    have bV : Below D20.heap.size D20 V33 := by rw [hVe]; exact (Below.refl _ _).alloc (Nat.le_refl _) _
    have Ab : Arr V33 D20.heap.size 82 (I64 Z16) := by rw [hVe]; exact Arr.new _ (I64 Z16) _
    have hXb : w.heap.size < D20.heap.size ∧ (w.heap.size + 1) < D20.heap.size ∧ (w.heap.size + 2) < D20.heap.size ∧ Xa < D20.heap.size ∧ True := ⟨pa.lt, pb.lt, pr.lt, Aa.lt, trivial⟩
    obtain ⟨Xb, hXe⟩ : ∃ X, X = D20.heap.size := ⟨_, rfl⟩
    replace fr := fr.trans (bV.mono fr.size)
    replace pa := pa.kept bV
    replace pb := pb.kept bV
    replace pr := pr.kept bV
    replace Aa := Aa.kept bV
    rw [← hVe]
    rw [← hXe] at Ab hXb ⊢
    clear hVe hXe bV
    refine hK.out _ _ ⟨E4.rb hP pa, E4.ra pa, E4.rb hQ pb, E4.ra pb⟩ (fun hHeld => ?_)
    clear hK K
    refine wpAnyH_ready (rs := [4]) (by kernel_rfl) (by simp) (AllReadyH.cons (o := { dst := some 28, op := Op.call { callee := Callee.value (Operand.func 111), args := #[Operand.tmp 25, Operand.tmp 27], argTypes := #[82, 82] }, type := 82, pos := "l06_point.go:36", after := #[{ on := 1, ground := Ground.data }, { on := 3, ground := Ground.data }], guard := none }) rfl (fun K hK => ?_) AllReadyH.nil)
    go_simp
    refine (Hs3.out _).mono ?_
    rintro e y34 ⟨rfl, hb34⟩
    replace fr := fr.trans (hb34.mono fr.size)
    replace pa := pa.kept hb34
    replace pb := pb.kept hb34
    replace pr := pr.kept hb34
    replace Aa := Aa.kept hb34
    replace Ab := Ab.kept hb34
    clear hb34
    go_wp2_with fail
    refine hK.out _ _ ⟨E4.rb hP pa, E4.ra pa, E4.rb hQ pb, E4.ra pb⟩ (fun hHeld => ?_)
    clear hK K
    refine wpAnyH_ready (rs := [9]) (by kernel_rfl) (by simp) (AllReadyH.cons (o := { dst := some 33, op := Op.call { callee := Callee.value (Operand.func 111), args := #[Operand.tmp 30, Operand.tmp 32], argTypes := #[82, 82] }, type := 82, pos := "l06_point.go:36", after := #[{ on := 6, ground := Ground.data }, { on := 8, ground := Ground.data }, { on := 4, ground := Ground.chain }], guard := none }) rfl (fun K hK => ?_) AllReadyH.nil)
    go_simp
    refine (Hs4.out _).mono ?_
    rintro e y35 ⟨rfl, hb35⟩
    replace fr := fr.trans (hb35.mono fr.size)
    replace pa := pa.kept hb35
    replace pb := pb.kept hb35
    replace pr := pr.kept hb35
    replace Aa := Aa.kept hb35
    replace Ab := Ab.kept hb35
    clear hb35
    go_wp2_with fail
    refine hK.out _ _ ⟨E4.rb hP pa, E4.ra pa, E4.rb hQ pb, E4.ra pb⟩ (fun hHeld => ?_)
    clear hK K
    refine wpAnyH_ready (rs := [10]) (by kernel_rfl) (by simp) (AllReadyH.cons (o := { dst := some 34, op := Op.call { callee := Callee.value (Operand.func 109), args := #[Operand.tmp 28, Operand.tmp 33], argTypes := #[82, 82] }, type := 82, pos := "l06_point.go:36", after := #[{ on := 4, ground := Ground.data }, { on := 9, ground := Ground.data }, { on := 9, ground := Ground.chain }], guard := none }) rfl (fun K hK => ?_) AllReadyH.nil)
    go_simp
    refine (Hb.out _).mono ?_
    rintro e y36 ⟨rfl, hb36⟩
    replace fr := fr.trans (hb36.mono fr.size)
    replace pa := pa.kept hb36
    replace pb := pb.kept hb36
    replace pr := pr.kept hb36
    replace Aa := Aa.kept hb36
    replace Ab := Ab.kept hb36
    clear hb36
    go_wp2_with fail
    refine hK.out _ _ ⟨E4.rb hP pa, E4.ra pa, E4.rb hQ pb, E4.ra pb⟩ (fun hHeld => ?_)
    clear hK K
    refine wpAnyH_ready (rs := [12]) (by kernel_rfl) (by simp) (AllReadyH.cons (o := qUd1) rfl (fun K hK => ?_) AllReadyH.nil)
    rw [if_pos (by rfl)]
    refine wp_store_mid _ _ _ rfl _ _ (I64 lb).toArray rfl rfl (by have := arr_there Ab; simpa [nb] using this) jb (all_oneCell_toArray ub) ?_
    simp only [Act.put]
    replace fr := bel_sc fr Xb (I64 lb) (by omega)
    replace pa := pa.sc Xb (I64 lb) (by omega)
    replace pb := pb.sc Xb (I64 lb) (by omega)
    replace pr := pr.sc Xb (I64 lb) (by omega)
    replace Aa := Aa.sc Xb (I64 lb) (by omega)
    replace Ab := Ab.sc0 (I64 lb) (by simp [nb])
    obtain ⟨V37, hVe⟩ : ∃ V, V = y36.setCells Xb 0 (I64 lb) := ⟨_, rfl⟩
    rw [← hVe] at fr pa pb pr Aa Ab ⊢
    clear hVe
    refine hK.out _ _ ⟨E4.rb hP pa, E4.ra pa, E4.rb hQ pb, E4.ra pb⟩ (fun hHeld => ?_)
    clear hK K
    refine wpAnyH_done (by kernel_rfl) ?_ _
    go_wp2
    go_meet
    case rel => exact ⟨Xb, rfl, Ab, fr, pa, pb, pr, Aa⟩
  case rest =>
   clear fr pa pb pr Aa
   obtain ⟨Xb, rfl, Ab, fr, pa, pb, pr, Aa⟩ := hcut
   obtain ⟨C38, hwc⟩ : ∃ V, V = wc := ⟨_, rfl⟩
   rw [← hwc] at fr pa pb pr Aa Ab ⊢
   clear hwc
   go_wp2_with (first
     | (refine wpList_load_mid rfl 82 _ rfl w.heap.size 48 rfl (I64 P.t) _ (E4.rt hP pa) Tryd.underlying82 rfl iPt ?_)
     | (refine wpList_load_mid rfl 82 _ rfl (w.heap.size + 1) 48 rfl (I64 Q.t) _ (E4.rt hQ pb) Tryd.underlying82 rfl iQt ?_))
   refine (Hs5.out _).mono ?_
   rintro e y39 ⟨rfl, hb39⟩
   replace fr := fr.trans (hb39.mono fr.size)
   replace pa := pa.kept hb39
   replace pb := pb.kept hb39
   replace pr := pr.kept hb39
   replace Aa := Aa.kept hb39
   replace Ab := Ab.kept hb39
   clear hb39
   go_wp2_with fail
   refine (HD.out _).mono ?_
   rintro e y40 ⟨rfl, hb40⟩
   replace fr := fr.trans (hb40.mono fr.size)
   replace pa := pa.kept hb40
   replace pb := pb.kept hb40
   replace pr := pr.kept hb40
   replace Aa := Aa.kept hb40
   replace Ab := Ab.kept hb40
   clear hb40
   go_wp2_with fail
   refine (HD.out _).mono ?_
   rintro e y41 ⟨rfl, hb41⟩
   replace fr := fr.trans (hb41.mono fr.size)
   replace pa := pa.kept hb41
   replace pb := pb.kept hb41
   replace pr := pr.kept hb41
   replace Aa := Aa.kept hb41
   replace Ab := Ab.kept hb41
   clear hb41
   go_wp2_with fail
   refine (Hs6.out _).mono ?_
   rintro e y42 ⟨rfl, hb42⟩
   replace fr := fr.trans (hb42.mono fr.size)
   replace pa := pa.kept hb42
   replace pb := pb.kept hb42
   replace pr := pr.kept hb42
   replace Aa := Aa.kept hb42
   replace Ab := Ab.kept hb42
   clear hb42
   go_wp2_with fail
   refine (Hc.out _).mono ?_
   rintro e y43 ⟨rfl, hb43⟩
   replace fr := fr.trans (hb43.mono fr.size)
   replace pa := pa.kept hb43
   replace pb := pb.kept hb43
   replace pr := pr.kept hb43
   replace Aa := Aa.kept hb43
   replace Ab := Ab.kept hb43
   clear hb43
   obtain ⟨bV, Ac, q1⟩ := laid_e y43 lc
   replace fr := fr.trans (bV.mono fr.size)
   replace pa := pa.kept bV
   replace pb := pb.kept bV
   replace pr := pr.kept bV
   replace Aa := Aa.kept bV
   replace Ab := Ab.kept bV
   go_wp2_with (refine wpList_store_row rfl 82 _ _ rfl y43.heap.size (I64 lc).toArray rfl rfl 82 _ q1 jc (by simp [nc]) (by simp [Value.oneCell']) ?_)
   obtain ⟨V44, hVV⟩ : ∃ V, V = (y43.alloc (.cells #[.int .i64 0, .int .i64 0, .int .i64 0, .int .i64 0, .int .i64 0, .int .i64 0, .int .i64 0, .int .i64 0, .int .i64 0, .int .i64 0, .int .i64 0, .int .i64 0, .int .i64 0, .int .i64 0, .int .i64 0, .int .i64 0] 82)).setRow y43.heap.size (I64 lc).toArray := ⟨_, rfl⟩
   obtain ⟨Xc, hE⟩ : ∃ E, E = y43.heap.size := ⟨_, rfl⟩
   rw [← hVV] at fr pa pb pr Aa Ab Ac ⊢
   rw [← hE] at Ac ⊢
   clear hVV hE q1 bV
   try simp only [Act.put]
   go_cut [8] from 13 (fun s8 wc => ∃ (Xd : Nat), s8 = .pointer (some ⟨Xd, 0, none⟩) ∧ Arr wc Xd 82 (I64 ld) ∧ Below w.heap.size w wc ∧ Arr wc w.heap.size 108 (I64 P.cells) ∧ Arr wc (w.heap.size + 1) 108 (I64 Q.cells) ∧ Arr wc (w.heap.size + 2) 108 (I64 Z64) ∧ Arr wc Xa 82 (I64 la) ∧ Arr wc Xb 82 (I64 lb) ∧ Arr wc Xc 82 (I64 lc))
   case first =>
    have bD : Below V44.heap.size V44 V44.drew := (Below.refl _ _).drew
    replace fr := fr.trans (bD.mono fr.size)
    replace pa := pa.kept bD
    replace pb := pb.kept bD
    replace pr := pr.kept bD
    replace Aa := Aa.kept bD
    replace Ab := Ab.kept bD
    replace Ac := Ac.kept bD
    clear bD
    refine wp_region_held_drew (S := fun W => W.rangeAt (w.heap.size) 32 (I64 P.c) ∧ W.rangeAt (w.heap.size + 1) 32 (I64 Q.c)) (by kernel_rfl) ⟨E4.rc hP pa, E4.rc hQ pb⟩ (fun hHeld => ?_)
    obtain ⟨D45, hD⟩ : ∃ V, V = V44.drew := ⟨_, rfl⟩
    rw [← hD] at hHeld fr pa pb pr Aa Ab Ac ⊢
    clear hD
    refine wpAnyH_take (i := 0) (oi := { dst := some 44, op := Op.fieldAddr 108 (Operand.tmp 2) 2, type := 0, pos := "l06_point.go:38", after := #[], guard := none }) (v := .pointer (some ⟨w.heap.size, 32, none⟩)) rfl (by kernel_rfl) (by kernel_rfl) (by kernel_rfl) (fun _ _ _ h => h) (.inl ⟨by rfl, fun _ _ => by rfl⟩) (by assumption) ?_
    simp only [Act.put, List.setIfInBounds_toArray, List.set_cons_zero, List.set_cons_succ]
    refine wpAnyH_take (i := 1) (oi := { dst := some 45, op := Op.load 82 (Operand.tmp 44), type := 82, pos := "l06_point.go:38", after := #[{ on := 0, ground := Ground.data }], guard := none }) (v := _) rfl (by kernel_rfl) (by kernel_rfl) (by kernel_rfl) (fun _ _ _ h => h) (yieldsIf_load_mid (by rfl) _ _ rfl _ _ rfl (I64 P.c) _ (fun _ h => h.1) hu rfl iPc) (by assumption) ?_
    simp only [Act.put, List.setIfInBounds_toArray, List.set_cons_zero, List.set_cons_succ]
    refine wpAnyH_take (i := 2) (oi := { dst := some 46, op := Op.fieldAddr 108 (Operand.tmp 3) 2, type := 0, pos := "l06_point.go:38", after := #[], guard := none }) (v := .pointer (some ⟨w.heap.size + 1, 32, none⟩)) rfl (by kernel_rfl) (by kernel_rfl) (by kernel_rfl) (fun _ _ _ h => h) (.inl ⟨by rfl, fun _ _ => by rfl⟩) (by assumption) ?_
    simp only [Act.put, List.setIfInBounds_toArray, List.set_cons_zero, List.set_cons_succ]
    refine wpAnyH_take (i := 3) (oi := { dst := some 47, op := Op.load 82 (Operand.tmp 46), type := 82, pos := "l06_point.go:38", after := #[{ on := 2, ground := Ground.data }], guard := none }) (v := _) rfl (by kernel_rfl) (by kernel_rfl) (by kernel_rfl) (fun _ _ _ h => h) (yieldsIf_load_mid (by rfl) _ _ rfl _ _ rfl (I64 Q.c) _ (fun _ h => h.2) hu rfl iQc) (by assumption) ?_
    simp only [Act.put, List.setIfInBounds_toArray, List.set_cons_zero, List.set_cons_succ]
    refine wpAnyH_take (i := 4) (oi := { dst := some 48, op := Op.fieldAddr 108 (Operand.tmp 3) 2, type := 0, pos := "l06_point.go:38", after := #[], guard := none }) (v := .pointer (some ⟨w.heap.size + 1, 32, none⟩)) rfl (by kernel_rfl) (by kernel_rfl) (by kernel_rfl) (fun _ _ _ h => h) (.inl ⟨by rfl, fun _ _ => by rfl⟩) (by assumption) ?_
    simp only [Act.put, List.setIfInBounds_toArray, List.set_cons_zero, List.set_cons_succ]
    refine wpAnyH_take (i := 5) (oi := { dst := some 49, op := Op.load 82 (Operand.tmp 48), type := 82, pos := "l06_point.go:38", after := #[{ on := 4, ground := Ground.data }], guard := none }) (v := _) rfl (by kernel_rfl) (by kernel_rfl) (by kernel_rfl) (fun _ _ _ h => h) (yieldsIf_load_mid (by rfl) _ _ rfl _ _ rfl (I64 Q.c) _ (fun _ h => h.2) hu rfl iQc) (by assumption) ?_
    simp only [Act.put, List.setIfInBounds_toArray, List.set_cons_zero, List.set_cons_succ]
    refine wpAnyH_ready (rs := [6, 8]) (by kernel_rfl) (by simp) (AllReadyH.cons (o := { dst := some 50, op := Op.call { callee := Callee.value (Operand.func 111), args := #[Operand.tmp 47, Operand.tmp 49], argTypes := #[82, 82] }, type := 82, pos := "l06_point.go:38", after := #[{ on := 3, ground := Ground.data }, { on := 5, ground := Ground.data }], guard := none }) rfl (fun K hK => ?_) (AllReadyH.cons (o := { dst := some 8, op := Op.alloc 82, type := 0, pos := "l06_point.go:38", after := #[], guard := none }) rfl (fun K hK => ?_) AllReadyH.nil))
    ·skip
     go_simp
     refine (Hs7.out _).mono ?_
     rintro e y46 ⟨rfl, hb46⟩
     replace fr := fr.trans (hb46.mono fr.size)
     replace pa := pa.kept hb46
     replace pb := pb.kept hb46
     replace pr := pr.kept hb46
     replace Aa := Aa.kept hb46
     replace Ab := Ab.kept hb46
     replace Ac := Ac.kept hb46
     clear hb46
     go_wp2_with fail
     refine hK.out _ _ ⟨E4.rc hP pa, E4.rc hQ pb⟩ (fun hHeld => ?_)
     clear hK K
     refine wpAnyH_ready (rs := [7, 8]) (by kernel_rfl) (by simp) (AllReadyH.cons (o := { dst := some 51, op := Op.call { callee := Callee.value (Operand.func 109), args := #[Operand.tmp 45, Operand.tmp 50], argTypes := #[82, 82] }, type := 82, pos := "l06_point.go:38", after := #[{ on := 1, ground := Ground.data }, { on := 6, ground := Ground.data }, { on := 6, ground := Ground.chain }], guard := none }) rfl (fun K hK => ?_) (AllReadyH.cons (o := { dst := some 8, op := Op.alloc 82, type := 0, pos := "l06_point.go:38", after := #[], guard := none }) rfl (fun K hK => ?_) AllReadyH.nil))
     ·skip
      go_simp
      refine (Hd.out _).mono ?_
      rintro e y47 ⟨rfl, hb47⟩
      replace fr := fr.trans (hb47.mono fr.size)
      replace pa := pa.kept hb47
      replace pb := pb.kept hb47
      replace pr := pr.kept hb47
      replace Aa := Aa.kept hb47
      replace Ab := Ab.kept hb47
      replace Ac := Ac.kept hb47
      clear hb47
      go_wp2_with fail
      refine hK.out _ _ ⟨E4.rc hP pa, E4.rc hQ pb⟩ (fun hHeld => ?_)
      clear hK K
      refine wpAnyH_ready (rs := [8]) (by kernel_rfl) (by simp) (AllReadyH.cons (o := { dst := some 8, op := Op.alloc 82, type := 0, pos := "l06_point.go:38", after := #[], guard := none }) rfl (fun K hK => ?_) AllReadyH.nil)
      go_simp
      obtain ⟨V48, hVe⟩ : ∃ V, V = y47.alloc (.cells #[.int .i64 0, .int .i64 0, .int .i64 0, .int .i64 0, .int .i64 0, .int .i64 0, .int .i64 0, .int .i64 0, .int .i64 0, .int .i64 0, .int .i64 0, .int .i64 0, .int .i64 0, .int .i64 0, .int .i64 0, .int .i64 0] 82) := ⟨_, rfl⟩
      have bV : Below y47.heap.size y47 V48 := by rw [hVe]; exact (Below.refl _ _).alloc (Nat.le_refl _) _
      have Ad : Arr V48 y47.heap.size 82 (I64 Z16) := by rw [hVe]; exact Arr.new _ (I64 Z16) _
      have hXd : w.heap.size < y47.heap.size ∧ (w.heap.size + 1) < y47.heap.size ∧ (w.heap.size + 2) < y47.heap.size ∧ Xa < y47.heap.size ∧ Xb < y47.heap.size ∧ Xc < y47.heap.size ∧ True := ⟨pa.lt, pb.lt, pr.lt, Aa.lt, Ab.lt, Ac.lt, trivial⟩
      obtain ⟨Xd, hXe⟩ : ∃ X, X = y47.heap.size := ⟨_, rfl⟩
      replace fr := fr.trans (bV.mono fr.size)
      replace pa := pa.kept bV
      replace pb := pb.kept bV
      replace pr := pr.kept bV
      replace Aa := Aa.kept bV
      replace Ab := Ab.kept bV
      replace Ac := Ac.kept bV
      rw [← hVe]
      rw [← hXe] at Ad hXd ⊢
      clear hVe hXe bV
      refine hK.out _ _ ⟨E4.rc hP pa, E4.rc hQ pb⟩ (fun hHeld => ?_)
      clear hK K
      refine wpAnyH_ready (rs := [9]) (by kernel_rfl) (by simp) (AllReadyH.cons (o := qUd2) rfl (fun K hK => ?_) AllReadyH.nil)
      rw [if_pos (by rfl)]
      refine wp_store_mid _ _ _ rfl _ _ (I64 ld).toArray rfl rfl (by have := arr_there Ad; simpa [nd] using this) jd (all_oneCell_toArray ud) ?_
      simp only [Act.put]
      replace fr := bel_sc fr Xd (I64 ld) (by omega)
      replace pa := pa.sc Xd (I64 ld) (by omega)
      replace pb := pb.sc Xd (I64 ld) (by omega)
      replace pr := pr.sc Xd (I64 ld) (by omega)
      replace Aa := Aa.sc Xd (I64 ld) (by omega)
      replace Ab := Ab.sc Xd (I64 ld) (by omega)
      replace Ac := Ac.sc Xd (I64 ld) (by omega)
      replace Ad := Ad.sc0 (I64 ld) (by simp [nd])
      obtain ⟨V49, hVe⟩ : ∃ V, V = V48.setCells Xd 0 (I64 ld) := ⟨_, rfl⟩
      rw [← hVe] at fr pa pb pr Aa Ab Ac Ad ⊢
      clear hVe
      refine hK.out _ _ ⟨E4.rc hP pa, E4.rc hQ pb⟩ (fun hHeld => ?_)
      clear hK K
      refine wpAnyH_done (by kernel_rfl) ?_ _
      go_wp2
      go_meet
      case rel => exact ⟨Xd, rfl, Ad, fr, pa, pb, pr, Aa, Ab, Ac⟩
     ·skip
      go_simp
      obtain ⟨V50, hVe⟩ : ∃ V, V = y46.alloc (.cells #[.int .i64 0, .int .i64 0, .int .i64 0, .int .i64 0, .int .i64 0, .int .i64 0, .int .i64 0, .int .i64 0, .int .i64 0, .int .i64 0, .int .i64 0, .int .i64 0, .int .i64 0, .int .i64 0, .int .i64 0, .int .i64 0] 82) := ⟨_, rfl⟩
      have bV : Below y46.heap.size y46 V50 := by rw [hVe]; exact (Below.refl _ _).alloc (Nat.le_refl _) _
      have Ad : Arr V50 y46.heap.size 82 (I64 Z16) := by rw [hVe]; exact Arr.new _ (I64 Z16) _
      have hXd : w.heap.size < y46.heap.size ∧ (w.heap.size + 1) < y46.heap.size ∧ (w.heap.size + 2) < y46.heap.size ∧ Xa < y46.heap.size ∧ Xb < y46.heap.size ∧ Xc < y46.heap.size ∧ True := ⟨pa.lt, pb.lt, pr.lt, Aa.lt, Ab.lt, Ac.lt, trivial⟩
      obtain ⟨Xd, hXe⟩ : ∃ X, X = y46.heap.size := ⟨_, rfl⟩
      replace fr := fr.trans (bV.mono fr.size)
      replace pa := pa.kept bV
      replace pb := pb.kept bV
      replace pr := pr.kept bV
      replace Aa := Aa.kept bV
      replace Ab := Ab.kept bV
      replace Ac := Ac.kept bV
      rw [← hVe]
      rw [← hXe] at Ad hXd ⊢
      clear hVe hXe bV
      refine hK.out _ _ ⟨E4.rc hP pa, E4.rc hQ pb⟩ (fun hHeld => ?_)
      clear hK K
      refine wpAnyH_ready (rs := [7]) (by kernel_rfl) (by simp) (AllReadyH.cons (o := { dst := some 51, op := Op.call { callee := Callee.value (Operand.func 109), args := #[Operand.tmp 45, Operand.tmp 50], argTypes := #[82, 82] }, type := 82, pos := "l06_point.go:38", after := #[{ on := 1, ground := Ground.data }, { on := 6, ground := Ground.data }, { on := 6, ground := Ground.chain }], guard := none }) rfl (fun K hK => ?_) AllReadyH.nil)
      go_simp
      refine (Hd.out _).mono ?_
      rintro e y51 ⟨rfl, hb51⟩
      replace fr := fr.trans (hb51.mono fr.size)
      replace pa := pa.kept hb51
      replace pb := pb.kept hb51
      replace pr := pr.kept hb51
      replace Aa := Aa.kept hb51
      replace Ab := Ab.kept hb51
      replace Ac := Ac.kept hb51
      replace Ad := Ad.kept hb51
      clear hb51
      go_wp2_with fail
      refine hK.out _ _ ⟨E4.rc hP pa, E4.rc hQ pb⟩ (fun hHeld => ?_)
      clear hK K
      refine wpAnyH_ready (rs := [9]) (by kernel_rfl) (by simp) (AllReadyH.cons (o := qUd2) rfl (fun K hK => ?_) AllReadyH.nil)
      rw [if_pos (by rfl)]
      refine wp_store_mid _ _ _ rfl _ _ (I64 ld).toArray rfl rfl (by have := arr_there Ad; simpa [nd] using this) jd (all_oneCell_toArray ud) ?_
      simp only [Act.put]
      replace fr := bel_sc fr Xd (I64 ld) (by omega)
      replace pa := pa.sc Xd (I64 ld) (by omega)
      replace pb := pb.sc Xd (I64 ld) (by omega)
      replace pr := pr.sc Xd (I64 ld) (by omega)
      replace Aa := Aa.sc Xd (I64 ld) (by omega)
      replace Ab := Ab.sc Xd (I64 ld) (by omega)
      replace Ac := Ac.sc Xd (I64 ld) (by omega)
      replace Ad := Ad.sc0 (I64 ld) (by simp [nd])
      obtain ⟨V52, hVe⟩ : ∃ V, V = y51.setCells Xd 0 (I64 ld) := ⟨_, rfl⟩
      rw [← hVe] at fr pa pb pr Aa Ab Ac Ad ⊢
      clear hVe
      refine hK.out _ _ ⟨E4.rc hP pa, E4.rc hQ pb⟩ (fun hHeld => ?_)
      clear hK K
      refine wpAnyH_done (by kernel_rfl) ?_ _
      go_wp2
      go_meet
      case rel => exact ⟨Xd, rfl, Ad, fr, pa, pb, pr, Aa, Ab, Ac⟩
    ·skip
     go_simp
     obtain ⟨V53, hVe⟩ : ∃ V, V = D45.alloc (.cells #[.int .i64 0, .int .i64 0, .int .i64 0, .int .i64 0, .int .i64 0, .int .i64 0, .int .i64 0, .int .i64 0, .int .i64 0, .int .i64 0, .int .i64 0, .int .i64 0, .int .i64 0, .int .i64 0, .int .i64 0, .int .i64 0] 82) := ⟨_, rfl⟩
     have bV : Below D45.heap.size D45 V53 := by rw [hVe]; exact (Below.refl _ _).alloc (Nat.le_refl _) _
     have Ad : Arr V53 D45.heap.size 82 (I64 Z16) := by rw [hVe]; exact Arr.new _ (I64 Z16) _
     have hXd : w.heap.size < D45.heap.size ∧ (w.heap.size + 1) < D45.heap.size ∧ (w.heap.size + 2) < D45.heap.size ∧ Xa < D45.heap.size ∧ Xb < D45.heap.size ∧ Xc < D45.heap.size ∧ True := ⟨pa.lt, pb.lt, pr.lt, Aa.lt, Ab.lt, Ac.lt, trivial⟩
     obtain ⟨Xd, hXe⟩ : ∃ X, X = D45.heap.size := ⟨_, rfl⟩
     replace fr := fr.trans (bV.mono fr.size)
     replace pa := pa.kept bV
     replace pb := pb.kept bV
     replace pr := pr.kept bV
     replace Aa := Aa.kept bV
     replace Ab := Ab.kept bV
     replace Ac := Ac.kept bV
     rw [← hVe]
     rw [← hXe] at Ad hXd ⊢
     clear hVe hXe bV
     refine hK.out _ _ ⟨E4.rc hP pa, E4.rc hQ pb⟩ (fun hHeld => ?_)
     clear hK K
     refine wpAnyH_ready (rs := [6]) (by kernel_rfl) (by simp) (AllReadyH.cons (o := { dst := some 50, op := Op.call { callee := Callee.value (Operand.func 111), args := #[Operand.tmp 47, Operand.tmp 49], argTypes := #[82, 82] }, type := 82, pos := "l06_point.go:38", after := #[{ on := 3, ground := Ground.data }, { on := 5, ground := Ground.data }], guard := none }) rfl (fun K hK => ?_) AllReadyH.nil)
     go_simp
     refine (Hs7.out _).mono ?_
     rintro e y54 ⟨rfl, hb54⟩
     replace fr := fr.trans (hb54.mono fr.size)
     replace pa := pa.kept hb54
     replace pb := pb.kept hb54
     replace pr := pr.kept hb54
     replace Aa := Aa.kept hb54
     replace Ab := Ab.kept hb54
     replace Ac := Ac.kept hb54
     replace Ad := Ad.kept hb54
     clear hb54
     go_wp2_with fail
     refine hK.out _ _ ⟨E4.rc hP pa, E4.rc hQ pb⟩ (fun hHeld => ?_)
     clear hK K
     refine wpAnyH_ready (rs := [7]) (by kernel_rfl) (by simp) (AllReadyH.cons (o := { dst := some 51, op := Op.call { callee := Callee.value (Operand.func 109), args := #[Operand.tmp 45, Operand.tmp 50], argTypes := #[82, 82] }, type := 82, pos := "l06_point.go:38", after := #[{ on := 1, ground := Ground.data }, { on := 6, ground := Ground.data }, { on := 6, ground := Ground.chain }], guard := none }) rfl (fun K hK => ?_) AllReadyH.nil)
     go_simp
     refine (Hd.out _).mono ?_
     rintro e y55 ⟨rfl, hb55⟩
     replace fr := fr.trans (hb55.mono fr.size)
     replace pa := pa.kept hb55
     replace pb := pb.kept hb55
     replace pr := pr.kept hb55
     replace Aa := Aa.kept hb55
     replace Ab := Ab.kept hb55
     replace Ac := Ac.kept hb55
     replace Ad := Ad.kept hb55
     clear hb55
     go_wp2_with fail
     refine hK.out _ _ ⟨E4.rc hP pa, E4.rc hQ pb⟩ (fun hHeld => ?_)
     clear hK K
     refine wpAnyH_ready (rs := [9]) (by kernel_rfl) (by simp) (AllReadyH.cons (o := qUd2) rfl (fun K hK => ?_) AllReadyH.nil)
     rw [if_pos (by rfl)]
     refine wp_store_mid _ _ _ rfl _ _ (I64 ld).toArray rfl rfl (by have := arr_there Ad; simpa [nd] using this) jd (all_oneCell_toArray ud) ?_
     simp only [Act.put]
     replace fr := bel_sc fr Xd (I64 ld) (by omega)
     replace pa := pa.sc Xd (I64 ld) (by omega)
     replace pb := pb.sc Xd (I64 ld) (by omega)
     replace pr := pr.sc Xd (I64 ld) (by omega)
     replace Aa := Aa.sc Xd (I64 ld) (by omega)
     replace Ab := Ab.sc Xd (I64 ld) (by omega)
     replace Ac := Ac.sc Xd (I64 ld) (by omega)
     replace Ad := Ad.sc0 (I64 ld) (by simp [nd])
     obtain ⟨V56, hVe⟩ : ∃ V, V = y55.setCells Xd 0 (I64 ld) := ⟨_, rfl⟩
     rw [← hVe] at fr pa pb pr Aa Ab Ac Ad ⊢
     clear hVe
     refine hK.out _ _ ⟨E4.rc hP pa, E4.rc hQ pb⟩ (fun hHeld => ?_)
     clear hK K
     refine wpAnyH_done (by kernel_rfl) ?_ _
     go_wp2
     go_meet
     case rel => exact ⟨Xd, rfl, Ad, fr, pa, pb, pr, Aa, Ab, Ac⟩
   case rest =>
    clear fr pa pb pr Aa Ab Ac
    obtain ⟨Xd, rfl, Ad, fr, pa, pb, pr, Aa, Ab, Ac⟩ := hcut
    obtain ⟨C57, hwc⟩ : ∃ V, V = wc := ⟨_, rfl⟩
    rw [← hwc] at fr pa pb pr Aa Ab Ac Ad ⊢
    clear hwc
    go_wp2_with (first
      | (refine wpList_load_row rfl 82 _ rfl Xb rfl 82 (I64 lb).toArray (0, 0) _ Ab Tryd.underlying82 rfl jb ?_)
      | (refine wpList_load_row rfl 82 _ rfl Xa rfl 82 (I64 la).toArray (0, 0) _ Aa Tryd.underlying82 rfl ja ?_))
    refine (He.out _).mono ?_
    rintro e y58 ⟨rfl, hb58⟩
    replace fr := fr.trans (hb58.mono fr.size)
    replace pa := pa.kept hb58
    replace pb := pb.kept hb58
    replace pr := pr.kept hb58
    replace Aa := Aa.kept hb58
    replace Ab := Ab.kept hb58
    replace Ac := Ac.kept hb58
    replace Ad := Ad.kept hb58
    clear hb58
    obtain ⟨bV, Ae, q1⟩ := laid_e y58 le
    replace fr := fr.trans (bV.mono fr.size)
    replace pa := pa.kept bV
    replace pb := pb.kept bV
    replace pr := pr.kept bV
    replace Aa := Aa.kept bV
    replace Ab := Ab.kept bV
    replace Ac := Ac.kept bV
    replace Ad := Ad.kept bV
    go_wp2_with (first
      | (refine wpList_load_row rfl 82 _ rfl Xd rfl 82 (I64 ld).toArray (0, 0) _ Ad Tryd.underlying82 rfl jd ?_)
      | (refine wpList_load_row rfl 82 _ rfl Xc rfl 82 (I64 lc).toArray (0, 0) _ Ac Tryd.underlying82 rfl jc ?_)
      | (refine wpList_store_row rfl 82 _ _ rfl y58.heap.size (I64 le).toArray rfl rfl 82 _ q1 je (by simp [ne]) (by simp [Value.oneCell']) ?_))
    obtain ⟨V59, hVV⟩ : ∃ V, V = (y58.alloc (.cells #[.int .i64 0, .int .i64 0, .int .i64 0, .int .i64 0, .int .i64 0, .int .i64 0, .int .i64 0, .int .i64 0, .int .i64 0, .int .i64 0, .int .i64 0, .int .i64 0, .int .i64 0, .int .i64 0, .int .i64 0, .int .i64 0] 82)).setRow y58.heap.size (I64 le).toArray := ⟨_, rfl⟩
    obtain ⟨Xe, hE⟩ : ∃ E, E = y58.heap.size := ⟨_, rfl⟩
    rw [← hVV] at fr pa pb pr Aa Ab Ac Ad Ae ⊢
    rw [← hE] at Ae ⊢
    clear hVV hE q1 bV
    refine (Hf.out _).mono ?_
    rintro e y60 ⟨rfl, hb60⟩
    replace fr := fr.trans (hb60.mono fr.size)
    replace pa := pa.kept hb60
    replace pb := pb.kept hb60
    replace pr := pr.kept hb60
    replace Aa := Aa.kept hb60
    replace Ab := Ab.kept hb60
    replace Ac := Ac.kept hb60
    replace Ad := Ad.kept hb60
    replace Ae := Ae.kept hb60
    clear hb60
    obtain ⟨bV, Af, q1⟩ := laid_e y60 lf
    replace fr := fr.trans (bV.mono fr.size)
    replace pa := pa.kept bV
    replace pb := pb.kept bV
    replace pr := pr.kept bV
    replace Aa := Aa.kept bV
    replace Ab := Ab.kept bV
    replace Ac := Ac.kept bV
    replace Ad := Ad.kept bV
    replace Ae := Ae.kept bV
    go_wp2_with (first
      | (refine wpList_load_row rfl 82 _ rfl Xd rfl 82 (I64 ld).toArray (0, 0) _ Ad Tryd.underlying82 rfl jd ?_)
      | (refine wpList_load_row rfl 82 _ rfl Xc rfl 82 (I64 lc).toArray (0, 0) _ Ac Tryd.underlying82 rfl jc ?_)
      | (refine wpList_store_row rfl 82 _ _ rfl y60.heap.size (I64 lf).toArray rfl rfl 82 _ q1 jf (by simp [nf]) (by simp [Value.oneCell']) ?_))
    obtain ⟨V61, hVV⟩ : ∃ V, V = (y60.alloc (.cells #[.int .i64 0, .int .i64 0, .int .i64 0, .int .i64 0, .int .i64 0, .int .i64 0, .int .i64 0, .int .i64 0, .int .i64 0, .int .i64 0, .int .i64 0, .int .i64 0, .int .i64 0, .int .i64 0, .int .i64 0, .int .i64 0] 82)).setRow y60.heap.size (I64 lf).toArray := ⟨_, rfl⟩
    obtain ⟨Xf, hE⟩ : ∃ E, E = y60.heap.size := ⟨_, rfl⟩
    rw [← hVV] at fr pa pb pr Aa Ab Ac Ad Ae Af ⊢
    rw [← hE] at Af ⊢
    clear hVV hE q1 bV
    refine (Hg.out _).mono ?_
    rintro e y62 ⟨rfl, hb62⟩
    replace fr := fr.trans (hb62.mono fr.size)
    replace pa := pa.kept hb62
    replace pb := pb.kept hb62
    replace pr := pr.kept hb62
    replace Aa := Aa.kept hb62
    replace Ab := Ab.kept hb62
    replace Ac := Ac.kept hb62
    replace Ad := Ad.kept hb62
    replace Ae := Ae.kept hb62
    replace Af := Af.kept hb62
    clear hb62
    obtain ⟨bV, Ag, q1⟩ := laid_e y62 lg
    replace fr := fr.trans (bV.mono fr.size)
    replace pa := pa.kept bV
    replace pb := pb.kept bV
    replace pr := pr.kept bV
    replace Aa := Aa.kept bV
    replace Ab := Ab.kept bV
    replace Ac := Ac.kept bV
    replace Ad := Ad.kept bV
    replace Ae := Ae.kept bV
    replace Af := Af.kept bV
    go_wp2_with (first
      | (refine wpList_load_row rfl 82 _ rfl Xb rfl 82 (I64 lb).toArray (0, 0) _ Ab Tryd.underlying82 rfl jb ?_)
      | (refine wpList_load_row rfl 82 _ rfl Xa rfl 82 (I64 la).toArray (0, 0) _ Aa Tryd.underlying82 rfl ja ?_)
      | (refine wpList_store_row rfl 82 _ _ rfl y62.heap.size (I64 lg).toArray rfl rfl 82 _ q1 jg (by simp [ng]) (by simp [Value.oneCell']) ?_))
    obtain ⟨V63, hVV⟩ : ∃ V, V = (y62.alloc (.cells #[.int .i64 0, .int .i64 0, .int .i64 0, .int .i64 0, .int .i64 0, .int .i64 0, .int .i64 0, .int .i64 0, .int .i64 0, .int .i64 0, .int .i64 0, .int .i64 0, .int .i64 0, .int .i64 0, .int .i64 0, .int .i64 0] 82)).setRow y62.heap.size (I64 lg).toArray := ⟨_, rfl⟩
    obtain ⟨Xg, hE⟩ : ∃ E, E = y62.heap.size := ⟨_, rfl⟩
    rw [← hVV] at fr pa pb pr Aa Ab Ac Ad Ae Af Ag ⊢
    rw [← hE] at Ag ⊢
    clear hVV hE q1 bV
    refine (Hh.out _).mono ?_
    rintro e y64 ⟨rfl, hb64⟩
    replace fr := fr.trans (hb64.mono fr.size)
    replace pa := pa.kept hb64
    replace pb := pb.kept hb64
    replace pr := pr.kept hb64
    replace Aa := Aa.kept hb64
    replace Ab := Ab.kept hb64
    replace Ac := Ac.kept hb64
    replace Ad := Ad.kept hb64
    replace Ae := Ae.kept hb64
    replace Af := Af.kept hb64
    replace Ag := Ag.kept hb64
    clear hb64
    obtain ⟨bV, Ah, q1⟩ := laid_e y64 lh
    replace fr := fr.trans (bV.mono fr.size)
    replace pa := pa.kept bV
    replace pb := pb.kept bV
    replace pr := pr.kept bV
    replace Aa := Aa.kept bV
    replace Ab := Ab.kept bV
    replace Ac := Ac.kept bV
    replace Ad := Ad.kept bV
    replace Ae := Ae.kept bV
    replace Af := Af.kept bV
    replace Ag := Ag.kept bV
    go_wp2_with (refine wpList_store_row rfl 82 _ _ rfl y64.heap.size (I64 lh).toArray rfl rfl 82 _ q1 jh (by simp [nh]) (by simp [Value.oneCell']) ?_)
    obtain ⟨V65, hVV⟩ : ∃ V, V = (y64.alloc (.cells #[.int .i64 0, .int .i64 0, .int .i64 0, .int .i64 0, .int .i64 0, .int .i64 0, .int .i64 0, .int .i64 0, .int .i64 0, .int .i64 0, .int .i64 0, .int .i64 0, .int .i64 0, .int .i64 0, .int .i64 0, .int .i64 0] 82)).setRow y64.heap.size (I64 lh).toArray := ⟨_, rfl⟩
    obtain ⟨Xh, hE⟩ : ∃ E, E = y64.heap.size := ⟨_, rfl⟩
    rw [← hVV] at fr pa pb pr Aa Ab Ac Ad Ae Af Ag Ah ⊢
    rw [← hE] at Ah ⊢
    clear hVV hE q1 bV
    have hXX : Xe ≠ w.heap.size + 2 ∧ Xf ≠ w.heap.size + 2 ∧ Xg ≠ w.heap.size + 2 ∧ Xh ≠ w.heap.size + 2 := ⟨arr_ne Ae pr (by decide), arr_ne Af pr (by decide), arr_ne Ag pr (by decide), arr_ne Ah pr (by decide)⟩
    clear pa
    clear pb
    clear Aa
    clear Ab
    clear Ac
    clear Ad
    try simp only [Act.put]
    have bD : Below V65.heap.size V65 V65.drew := (Below.refl _ _).drew
    replace fr := fr.trans (bD.mono fr.size)
    replace pr := pr.kept bD
    replace Ae := Ae.kept bD
    replace Af := Af.kept bD
    replace Ag := Ag.kept bD
    replace Ah := Ah.kept bD
    clear bD
    refine wp_region_held_drew (S := fun W => W.rangeAt Xe 0 (I64 le) ∧ W.rangeAt Xf 0 (I64 lf) ∧ W.rangeAt Xg 0 (I64 lg) ∧ W.rangeAt Xh 0 (I64 lh)) (by kernel_rfl) ⟨arr_range Ae, arr_range Af, arr_range Ag, arr_range Ah⟩ (fun hHeld => ?_)
    obtain ⟨D66, hD⟩ : ∃ V, V = V65.drew := ⟨_, rfl⟩
    rw [← hD] at hHeld fr pr Ae Af Ag Ah ⊢
    clear hD
    refine wpAnyH_take (i := 0) (oi := { dst := some 64, op := Op.load 82 (Operand.tmp 9), type := 82, pos := "l06_point.go:43", after := #[], guard := none }) (v := _) rfl (by kernel_rfl) (by kernel_rfl) (by kernel_rfl) (fun _ _ _ h => h) (yieldsIf_load_mid (by rfl) _ _ rfl _ _ rfl (I64 le) _ (fun _ h => h.1) hu rfl iie) (by assumption) ?_
    simp only [Act.put, List.setIfInBounds_toArray, List.set_cons_zero, List.set_cons_succ]
    refine wpAnyH_take (i := 1) (oi := { dst := some 65, op := Op.load 82 (Operand.tmp 10), type := 82, pos := "l06_point.go:43", after := #[], guard := none }) (v := _) rfl (by kernel_rfl) (by kernel_rfl) (by kernel_rfl) (fun _ _ _ h => h) (yieldsIf_load_mid (by rfl) _ _ rfl _ _ rfl (I64 lf) _ (fun _ h => h.2.1) hu rfl iif) (by assumption) ?_
    simp only [Act.put, List.setIfInBounds_toArray, List.set_cons_zero, List.set_cons_succ]
    refine wpAnyH_take (i := 3) (oi := { dst := some 67, op := Op.load 82 (Operand.tmp 11), type := 82, pos := "l06_point.go:43", after := #[], guard := none }) (v := _) rfl (by kernel_rfl) (by kernel_rfl) (by kernel_rfl) (fun _ _ _ h => h) (yieldsIf_load_mid (by rfl) _ _ rfl _ _ rfl (I64 lg) _ (fun _ h => h.2.2.1) hu rfl iig) (by assumption) ?_
    simp only [Act.put, List.setIfInBounds_toArray, List.set_cons_zero, List.set_cons_succ]
    refine wpAnyH_take (i := 4) (oi := { dst := some 68, op := Op.load 82 (Operand.tmp 12), type := 82, pos := "l06_point.go:43", after := #[], guard := none }) (v := _) rfl (by kernel_rfl) (by kernel_rfl) (by kernel_rfl) (fun _ _ _ h => h) (yieldsIf_load_mid (by rfl) _ _ rfl _ _ rfl (I64 lh) _ (fun _ h => h.2.2.2) hu rfl iih) (by assumption) ?_
    simp only [Act.put, List.setIfInBounds_toArray, List.set_cons_zero, List.set_cons_succ]
    refine wpAnyH_take (i := 6) (oi := { dst := some 70, op := Op.load 82 (Operand.tmp 10), type := 82, pos := "l06_point.go:43", after := #[], guard := none }) (v := _) rfl (by kernel_rfl) (by kernel_rfl) (by kernel_rfl) (fun _ _ _ h => h) (yieldsIf_load_mid (by rfl) _ _ rfl _ _ rfl (I64 lf) _ (fun _ h => h.2.1) hu rfl iif) (by assumption) ?_
    simp only [Act.put, List.setIfInBounds_toArray, List.set_cons_zero, List.set_cons_succ]
    refine wpAnyH_take (i := 7) (oi := { dst := some 71, op := Op.load 82 (Operand.tmp 11), type := 82, pos := "l06_point.go:43", after := #[], guard := none }) (v := _) rfl (by kernel_rfl) (by kernel_rfl) (by kernel_rfl) (fun _ _ _ h => h) (yieldsIf_load_mid (by rfl) _ _ rfl _ _ rfl (I64 lg) _ (fun _ h => h.2.2.1) hu rfl iig) (by assumption) ?_
    simp only [Act.put, List.setIfInBounds_toArray, List.set_cons_zero, List.set_cons_succ]
    refine wpAnyH_take (i := 9) (oi := { dst := some 73, op := Op.load 82 (Operand.tmp 9), type := 82, pos := "l06_point.go:43", after := #[], guard := none }) (v := _) rfl (by kernel_rfl) (by kernel_rfl) (by kernel_rfl) (fun _ _ _ h => h) (yieldsIf_load_mid (by rfl) _ _ rfl _ _ rfl (I64 le) _ (fun _ h => h.1) hu rfl iie) (by assumption) ?_
    simp only [Act.put, List.setIfInBounds_toArray, List.set_cons_zero, List.set_cons_succ]
    refine wpAnyH_take (i := 10) (oi := { dst := some 74, op := Op.load 82 (Operand.tmp 12), type := 82, pos := "l06_point.go:43", after := #[], guard := none }) (v := _) rfl (by kernel_rfl) (by kernel_rfl) (by kernel_rfl) (fun _ _ _ h => h) (yieldsIf_load_mid (by rfl) _ _ rfl _ _ rfl (I64 lh) _ (fun _ h => h.2.2.2) hu rfl iih) (by assumption) ?_
    simp only [Act.put, List.setIfInBounds_toArray, List.set_cons_zero, List.set_cons_succ]
    refine wpAnyH_ready (rs := [2]) (by kernel_rfl) (by simp) (AllReadyH.cons (o := { dst := some 66, op := Op.call { callee := Callee.value (Operand.func 109), args := #[Operand.tmp 64, Operand.tmp 65], argTypes := #[82, 82] }, type := 82, pos := "l06_point.go:43", after := #[{ on := 0, ground := Ground.data }, { on := 1, ground := Ground.data }], guard := none }) rfl (fun K hK => ?_) AllReadyH.nil)
    go_simp
    refine (HRa.out _).mono ?_
    rintro e y67 ⟨rfl, hb67⟩
    replace fr := fr.trans (hb67.mono fr.size)
    replace pr := pr.kept hb67
    replace Ae := Ae.kept hb67
    replace Af := Af.kept hb67
    replace Ag := Ag.kept hb67
    replace Ah := Ah.kept hb67
    clear hb67
    go_wp2_with fail
    refine hK.out _ _ ⟨arr_range Ae, arr_range Af, arr_range Ag, arr_range Ah⟩ (fun hHeld => ?_)
    clear hK K
    refine wpAnyH_ready (rs := [5]) (by kernel_rfl) (by simp) (AllReadyH.cons (o := { dst := some 69, op := Op.call { callee := Callee.value (Operand.func 109), args := #[Operand.tmp 67, Operand.tmp 68], argTypes := #[82, 82] }, type := 82, pos := "l06_point.go:43", after := #[{ on := 3, ground := Ground.data }, { on := 4, ground := Ground.data }, { on := 2, ground := Ground.chain }], guard := none }) rfl (fun K hK => ?_) AllReadyH.nil)
    go_simp
    refine (HRb.out _).mono ?_
    rintro e y68 ⟨rfl, hb68⟩
    replace fr := fr.trans (hb68.mono fr.size)
    replace pr := pr.kept hb68
    replace Ae := Ae.kept hb68
    replace Af := Af.kept hb68
    replace Ag := Ag.kept hb68
    replace Ah := Ah.kept hb68
    clear hb68
    go_wp2_with fail
    refine hK.out _ _ ⟨arr_range Ae, arr_range Af, arr_range Ag, arr_range Ah⟩ (fun hHeld => ?_)
    clear hK K
    refine wpAnyH_ready (rs := [8]) (by kernel_rfl) (by simp) (AllReadyH.cons (o := { dst := some 72, op := Op.call { callee := Callee.value (Operand.func 109), args := #[Operand.tmp 70, Operand.tmp 71], argTypes := #[82, 82] }, type := 82, pos := "l06_point.go:43", after := #[{ on := 6, ground := Ground.data }, { on := 7, ground := Ground.data }, { on := 5, ground := Ground.chain }], guard := none }) rfl (fun K hK => ?_) AllReadyH.nil)
    go_simp
    refine (HRc.out _).mono ?_
    rintro e y69 ⟨rfl, hb69⟩
    replace fr := fr.trans (hb69.mono fr.size)
    replace pr := pr.kept hb69
    replace Ae := Ae.kept hb69
    replace Af := Af.kept hb69
    replace Ag := Ag.kept hb69
    replace Ah := Ah.kept hb69
    clear hb69
    go_wp2_with fail
    refine hK.out _ _ ⟨arr_range Ae, arr_range Af, arr_range Ag, arr_range Ah⟩ (fun hHeld => ?_)
    clear hK K
    refine wpAnyH_ready (rs := [11]) (by kernel_rfl) (by simp) (AllReadyH.cons (o := { dst := some 75, op := Op.call { callee := Callee.value (Operand.func 109), args := #[Operand.tmp 73, Operand.tmp 74], argTypes := #[82, 82] }, type := 82, pos := "l06_point.go:43", after := #[{ on := 9, ground := Ground.data }, { on := 10, ground := Ground.data }, { on := 8, ground := Ground.chain }], guard := none }) rfl (fun K hK => ?_) AllReadyH.nil)
    go_simp
    refine (HRt.out _).mono ?_
    rintro e y70 ⟨rfl, hb70⟩
    replace fr := fr.trans (hb70.mono fr.size)
    replace pr := pr.kept hb70
    replace Ae := Ae.kept hb70
    replace Af := Af.kept hb70
    replace Ag := Ag.kept hb70
    replace Ah := Ah.kept hb70
    clear hb70
    go_wp2_with fail
    refine hK.out _ _ ⟨arr_range Ae, arr_range Af, arr_range Ag, arr_range Ah⟩ (fun hHeld => ?_)
    clear hK K
    refine wpAnyH_take (i := 12) (oi := { dst := some 76, op := Op.build 108 #[(0, Operand.tmp 66), (1, Operand.tmp 69), (2, Operand.tmp 72), (3, Operand.tmp 75)], type := 108, pos := "l06_point.go:43", after := #[{ on := 2, ground := Ground.data }, { on := 5, ground := Ground.data }, { on := 8, ground := Ground.data }, { on := 11, ground := Ground.data }], guard := none }) (v := _) rfl (by kernel_rfl) (by kernel_rfl) (by kernel_rfl) (fun _ _ _ h => h) (yieldsIf_p6 (by rfl) _ _ _ _ rfl R hRo rfl rfl rfl rfl) (by assumption) ?_
    simp only [Act.put, List.setIfInBounds_toArray, List.set_cons_zero, List.set_cons_succ]
    refine wpAnyH_ready (rs := [13]) (by kernel_rfl) (by simp) (AllReadyH.cons (o := { dst := none, op := Op.store 108 (Operand.tmp 4) (Operand.tmp 76), type := 0, pos := "l06_point.go:43", after := #[{ on := 12, ground := Ground.data }, { on := 11, ground := Ground.chain }, { on := 0, ground := Ground.phase }, { on := 1, ground := Ground.phase }, { on := 2, ground := Ground.phase }, { on := 3, ground := Ground.phase }, { on := 4, ground := Ground.phase }, { on := 5, ground := Ground.phase }, { on := 6, ground := Ground.phase }, { on := 7, ground := Ground.phase }, { on := 8, ground := Ground.phase }, { on := 9, ground := Ground.phase }, { on := 10, ground := Ground.phase }, { on := 11, ground := Ground.phase }, { on := 12, ground := Ground.phase }], guard := none }) rfl (fun K hK => ?_) AllReadyH.nil)
    rw [if_pos (by rfl)]
    refine wp_store_mid _ _ _ rfl _ _ (I64 R.cells).toArray rfl rfl (by have := arr_there pr; simpa [hRl] using this) hip (all_oneCell_toArray hone) ?_
    simp only [Act.put]
    replace fr := bel_sc fr (w.heap.size + 2) (I64 R.cells) (by omega)
    replace pr := pr.sc0 (I64 R.cells) (by simp [hRl])
    replace Ae := Ae.sc (w.heap.size + 2) (I64 R.cells) (by omega)
    replace Af := Af.sc (w.heap.size + 2) (I64 R.cells) (by omega)
    replace Ag := Ag.sc (w.heap.size + 2) (I64 R.cells) (by omega)
    replace Ah := Ah.sc (w.heap.size + 2) (I64 R.cells) (by omega)
    obtain ⟨V71, hVe⟩ : ∃ V, V = y70.setCells (w.heap.size + 2) 0 (I64 R.cells) := ⟨_, rfl⟩
    rw [← hVe] at fr pr Ae Af Ag Ah ⊢
    clear hVe
    refine hK.out _ _ ⟨arr_range Ae, arr_range Af, arr_range Ag, arr_range Ah⟩ (fun hHeld => ?_)
    clear hK K
    refine wpAnyH_done (by kernel_rfl) ?_ _
    go_wp2
    exact bodyPost_ret (results_cell_row rfl _ _ (w.heap.size + 2) 108 (I64 R.cells).toArray (0, 0) _ rfl pr Tryd.underlying108 rfl hip) rfl ⟨rfl, fr⟩
end Go.Proofs.YtoblilngppjmhaaDoor

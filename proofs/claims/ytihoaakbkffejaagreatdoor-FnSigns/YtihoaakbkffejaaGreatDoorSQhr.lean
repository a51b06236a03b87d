/-
  What is proved here: the contract of the program's ScRead; where the program's variable holds the order; what a function of two multipliers answers, as a plain function; the contracts of the program's multipliersOf, ScAdd and ScMul; where the program's variable holds the order; contracts of the program's methods sum and orderSettled: the sum of two multipliers; what is below 2^270 brought below the order; where the program's variable holds the order.
-/
import Derived.Test.YtihoaakbkffejaaGreatDoorSOe
import Derived.Test.YtihoaakbkffejaaGreatDoorSOhm
import Derived.Test.YtihoaakbkffejaaGreatDoorSJg
import Derived.Test.YtihoaakbkffejaaGreatDoorSOm0
import Derived.Test.YtihoaakbkffejaaGreatDoorSFyq
import Derived.Test.YtihoaakbkffejaaGreatDoorSJc
namespace Go.Proofs.YtihoaakbkffejaaGreatDoor
open Go.RowKit
set_option maxRecDepth 100000

theorem rdZ_lm {bs : List Int} (hb : ∀ x ∈ bs, 0 ≤ x ∧ x < 256) : Lm (rdZ bs) := by
  unfold rdZ
  split
  · exact rdL_lm hb
  · intro x hx
    have : x = 0 := by simpa using hx
    omega
theorem muB_rd (bs : List Int) : muB (rdZ bs) (rdB bs) = rdOkO bs := by
  unfold muB rdOkO rdB
  by_cases h : bs.length = 32
  · have e : rdZ bs = rdL bs := by unfold rdZ rdB; rw [if_pos (by simp [h])]
    rw [e]
  · simp [h]
theorem muL_rd {bs : List Int} (h : rdOkO bs = true) : muL (rdZ bs) (rdB bs) = rdFO bs := by
  unfold muL rdFO
  rw [muB_rd, if_pos h, if_pos h]
  have h2 : rdB bs = true := by unfold rdOkO at h; simp at h; unfold rdB; simp [h.1]
  unfold rdZ
  rw [if_pos h2]

/-- The result's cell of a function that answers a multiplier. -/
structure S1r (w W : World) : Prop where
  fr : Below w.heap.size w W
  pr : Arr W w.heap.size 41 [.slice none 0 0]
theorem S1r.go {w A B : World} (h : S1r w A) (hb : Below A.heap.size A B) : S1r w B := ⟨h.fr.trans (hb.mono h.fr.size), h.pr.kept hb⟩

set_option maxHeartbeats 2000000 in
theorem implScRead (a : Option Addr) (n c : Nat) (bs : List Int) (w : World) (hx : Bs w a n c bs) (hV : Vr w 6 (I64 OL)) :
    Calls Tryz.prog 16 #[.slice a n c] w fun e w' => ∃ v, e = .returned (.tuple #[v, .bool (rdOkO bs)]) ∧ FeT 65 w w' v (rdFO bs) ∧ Below w.heap.size w w' := by
  obtain ⟨W, hW⟩ : ∃ W, W = w.alloc (.cells #[.slice none 0 0] 41) := ⟨_, rfl⟩
  have EE : S1r w W := by rw [hW]; exact ⟨(Below.refl _ _).alloc (Nat.le_refl _) _, Arr.new _ _ _⟩
  have HO := implLimbsRead a n c bs W (hx.below EE.fr)
  have gV := hV.kept EE.fr
  have hby := hx.2.2.2.1
  have HM : Hid (∀ Z, Vr Z 6 (I64 OL) → Calls Tryz.prog 58 #[.agg (I64 (rdZ bs)).toArray, .bool (rdB bs)] Z fun e w' => e = .returned (.tuple #[.agg (I64 (muL (rdZ bs) (rdB bs))).toArray, .bool (rdOkO bs)]) ∧ Below Z.heap.size Z w') := by
    unfold Hid; intro Z hZ
    have := implMuOf (rdZ bs) (rdB bs) Z (rdZ_len bs) (rdZ_lm hby) hZ
    rw [muB_rd] at this
    exact this
  have hSl : (muL (rdZ bs) (rdB bs)).length = 16 := muL_len (rdZ_len bs)
  obtain ⟨o, ho⟩ : ∃ o, o = rdOkO bs := ⟨_, rfl⟩
  obtain ⟨T, hT⟩ : ∃ T, T = rdFO bs := ⟨_, rfl⟩
  obtain ⟨L, hL⟩ : ∃ L, L = rdZ bs := ⟨_, rfl⟩
  obtain ⟨p, hp⟩ : ∃ p, p = rdB bs := ⟨_, rfl⟩
  obtain ⟨S, hS⟩ : ∃ S, S = muL (rdZ bs) (rdB bs) := ⟨_, rfl⟩
  have HT0 : Hid (o = false → T = []) := by unfold Hid; intro h; rw [hT]; unfold rdFO; rw [← ho, h]; rfl
  have HT1 : Hid (o = true → T = S) := by unfold Hid; intro h; rw [hT, hS]; exact (muL_rd (by rw [← ho]; exact h)).symm
  rw [← hS] at HM hSl
  rw [← hL, ← hp] at HO HM
  rw [← ho] at HM ⊢
  rw [← hT]
  have HO' : Hid (Calls Tryz.prog 56 #[.slice a n c] W fun e w' => e = .returned (.tuple #[.agg (I64 L).toArray, .bool p]) ∧ Below W.heap.size W w') := HO
  have his : (Tryz.prog.info? 92).map (·.size) = some (I64 S).toArray.size := by simpa [hSl] using infoM
  have hisl : (Tryz.prog.info? 65).map (·.size) = some (I64 S).toArray.size := by simpa [hSl] using infoL
  clear HO hL hp hS hx hV ho hT hby
  go_enter Tryz.func16, Tryz.ntmps16
  go_wp2_with fail
  rw [← hW]
  refine HO'.out.mono ?_
  rintro e w1 ⟨rfl, hb1⟩
  replace EE := EE.go hb1
  replace gV := gV.kept hb1
  clear hW hb1 HO'
  go_wp2_with fail
  refine (HM.out _ gV).mono ?_
  rintro e w2 ⟨rfl, hb2⟩
  replace EE := EE.go hb2
  obtain ⟨bV, pV, q1⟩ := laid_mu w2 S
  replace EE := EE.go bV
  clear gV hb2 bV HM
  cases o with
  | false =>
    have HE : Hid (T = []) := HT0.out rfl
    have hcr : ((w2.alloc (.cells #[.int .i64 0, .int .i64 0, .int .i64 0, .int .i64 0, .int .i64 0, .int .i64 0, .int .i64 0, .int .i64 0, .int .i64 0, .int .i64 0, .int .i64 0, .int .i64 0, .int .i64 0, .int .i64 0, .int .i64 0, .int .i64 0] 92)).setRow w2.heap.size (I64 S).toArray).cell? ⟨w.heap.size, 0, none⟩ = some (.slice none 0 0) := EE.pr.cell 0
    have hfr := EE.pr.frozen 0
    have HA : Hid _ := EE.pr.set 0 (.slice none 0 0)
    have HB : Hid _ := EE.fr.setCell (p := ⟨w.heap.size, 0, none⟩) (Nat.le_refl _) (.slice none 0 0)
    clear EE HT0 HT1 pV
    go_wp2_with (refine wpList_store_row rfl 92 _ _ rfl w2.heap.size (I64 S).toArray rfl rfl 92 _ q1 his (by simp [hSl]) (by simp [Value.oneCell']) ?_)
    exact bodyPost_ret (results_row_tmp (v := .bool false) (cs := [.slice none 0 0]) rfl rfl rfl HA.out Tryz.underlying41 rfl infoSc) rfl ⟨_, rfl, HE.out ▸ feT_nil _ _ _, HB.out⟩
  | true =>
    have HE : Hid (T = S) := HT1.out rfl
    clear HT0 HT1
    go_wp2_with (first
      | (refine wpList_store_row rfl 92 _ _ rfl w2.heap.size (I64 S).toArray rfl rfl 92 _ q1 his (by simp [hSl]) (by simp [Value.oneCell']) ?_)
      | (refine wpList_load_row rfl 65 _ rfl w2.heap.size rfl 92 (I64 S).toArray (0, 0) _ pV Tryz.underlying65 rfl hisl ?_))
    obtain ⟨V, hVV⟩ : ∃ V, V = (w2.alloc (.cells #[.int .i64 0, .int .i64 0, .int .i64 0, .int .i64 0, .int .i64 0, .int .i64 0, .int .i64 0, .int .i64 0, .int .i64 0, .int .i64 0, .int .i64 0, .int .i64 0, .int .i64 0, .int .i64 0, .int .i64 0, .int .i64 0] 92)).setRow w2.heap.size (I64 S).toArray := ⟨_, rfl⟩
    rw [← hVV] at EE ⊢
    clear hVV pV q1
    refine (implList S _ hSl).mono ?_
    rintro e w4 ⟨a', c', rfl, ho, hb4⟩
    have hlt := EE.pr.lt
    have hsz := EE.fr.size
    replace EE := EE.go hb4
    have HOW : Hid _ := own_base (own_otherS ho ⟨w.heap.size, 0, none⟩ (.slice a' 16 c') hlt) hsz
    have hcr : w4.cell? ⟨w.heap.size, 0, none⟩ = some (.slice none 0 0) := EE.pr.cell 0
    have hfr := EE.pr.frozen 0
    have HA : Hid _ := EE.pr.set 0 (.slice a' 16 c')
    have HB : Hid _ := EE.fr.setCell (p := ⟨w.heap.size, 0, none⟩) (Nat.le_refl _) (.slice a' 16 c')
    clear EE ho hb4 hsz hlt
    go_wp2
    exact bodyPost_ret (results_row_tmp (v := .bool true) (cs := [.slice a' 16 c']) rfl rfl rfl HA.out Tryz.underlying41 rfl infoSc) rfl ⟨_, rfl, HE.out ▸ feT_16 hSl HOW.out, HB.out⟩
end Go.Proofs.YtihoaakbkffejaaGreatDoor
namespace Go.Proofs.YtihoaakbkffejaaGreatDoor
open Go.RowKit
set_option maxRecDepth 100000

/-- What a function of two numbers answers. -/
def sc2 (f : Int → Int → Int) (xs ys : List Int) : List Int := if (scOk xs && scOk ys) = true then redO (f (val xs) (val ys)) else []
end Go.Proofs.YtihoaakbkffejaaGreatDoor
namespace Go.Proofs.YtihoaakbkffejaaGreatDoor
open Go.RowKit
set_option maxRecDepth 100000
abbrev qQi0 : Oper := { dst := some 33, op := Op.move (Operand.tmp 10), type := 4, pos := "l05_scalar.go:86", after := #[{ on := 3, ground := Ground.guard }, { on := 7, ground := Ground.gcOnly Departure.lateStores }], guard := some (3, true) }
abbrev qQi1 : Oper := { dst := some 34, op := Op.pick (Operand.tmp 32) (Operand.tmp 33) (Operand.const (Value.bool false)), type := 4, pos := "l05_scalar.go:86", after := #[{ on := 3, ground := Ground.data }, { on := 4, ground := Ground.data }, { on := 7, ground := Ground.gcOnly Departure.lateStores }], guard := none }
abbrev qQi2 : Oper := { dst := none, op := Op.store 92 (Operand.tmp 4) (Operand.tmp 29), type := 0, pos := "l05_scalar.go:86", after := #[{ on := 0, ground := Ground.data }, { on := 3, ground := Ground.chain }, { on := 0, ground := Ground.phase }, { on := 1, ground := Ground.textOnly Departure.lateStores }, { on := 2, ground := Ground.textOnly Departure.lateStores }, { on := 3, ground := Ground.textOnly Departure.lateStores }, { on := 4, ground := Ground.textOnly Departure.lateStores }, { on := 5, ground := Ground.textOnly Departure.lateStores }], guard := none }
abbrev qQi3 : Oper := { dst := none, op := Op.store 92 (Operand.tmp 5) (Operand.tmp 30), type := 0, pos := "l05_scalar.go:86", after := #[{ on := 1, ground := Ground.data }, { on := 6, ground := Ground.chain }, { on := 0, ground := Ground.phase }, { on := 1, ground := Ground.phase }, { on := 2, ground := Ground.textOnly Departure.lateStores }, { on := 3, ground := Ground.textOnly Departure.lateStores }, { on := 4, ground := Ground.textOnly Departure.lateStores }, { on := 5, ground := Ground.textOnly Departure.lateStores }, { on := 6, ground := Ground.phase }], guard := none }

theorem results_two_tmp {P : Program} {fn : Func} {p q u : Tmp} {ty : TypeId} {w : World} {g k : Nat} {t s : TypeId} {cs ds : List Value} {d : TypeDesc} {v : Value} {tmps : Array Value} (h : fn.results = #[.cell p ty, .cell q ty, .tmp u])
    (hp : tmps.getD p undef = .pointer (some ⟨g, 0, none⟩)) (hq : tmps.getD q undef = .pointer (some ⟨k, 0, none⟩)) (hv : tmps.getD u undef = v) (hg : Arr w g t cs) (hk : Arr w k s ds) (hu : P.underlying ty = some d) (hd : (match d with | .struct _ | .array _ _ => true | _ => false) = true) (hi : (P.info? ty).map (·.size) = some cs.length) (hj : (P.info? ty).map (·.size) = some ds.length) :
    (results fn tmps).run P w = .ok (.tuple #[.agg cs.toArray, .agg ds.toArray, v]) w := by
  have hl := run_loadVar_row (P := P) w g t ty cs.toArray (0, 0) d hg hu hd (by simpa using hi)
  have hm := run_loadVar_row (P := P) w k s ty ds.toArray (0, 0) d hk hu hd (by simpa using hj)
  have hp' : tmps[p]?.getD undef = .pointer (some ⟨g, 0, none⟩) := by simpa using hp
  have hq' : tmps[q]?.getD undef = .pointer (some ⟨k, 0, none⟩) := by simpa using hq
  have hv' : tmps[u]?.getD undef = v := by simpa using hv
  simp only [results, h]
  simp [Sem.run_bind, hp', hq', hv', asAddr, Result.andThen, hl, hm]

/-- The two boxes and the results' two cells of multipliersOf. -/
structure P4 (w W : World) (va vb : Value) : Prop where
  fr : Below w.heap.size w W
  pa : Arr W w.heap.size 41 [va]
  pb : Arr W (w.heap.size + 1) 41 [vb]
  r1 : Arr W (w.heap.size + 2) 92 (I64 Z16)
  r2 : Arr W (w.heap.size + 3) 92 (I64 Z16)
  vr : Vr W 6 (I64 OL)
theorem P4.go {w A B : World} {va vb : Value} (h : P4 w A va vb) (hb : Below A.heap.size A B) : P4 w B va vb := ⟨h.fr.trans (hb.mono h.fr.size), h.pa.kept hb, h.pb.kept hb, h.r1.kept hb, h.r2.kept hb, h.vr.kept hb⟩
theorem P4.new {w : World} (va vb : Value) (h : Vr w 6 (I64 OL)) : P4 w ((((w.alloc (.cells #[va] 41)).alloc (.cells #[vb] 41)).alloc (.cells (I64 Z16).toArray 92)).alloc (.cells (I64 Z16).toArray 92)) va vb := by
  have b1 : Below w.heap.size w (w.alloc (.cells #[va] 41)) := (Below.refl _ _).alloc (Nat.le_refl _) _
  have b2 := b1.alloc (by simp) (.cells #[vb] 41)
  have b3 := b2.alloc (by simp; omega) (.cells (I64 Z16).toArray 92)
  have hb := b3.alloc (by simp; omega) (.cells (I64 Z16).toArray 92)
  refine ⟨hb, (((Arr.new w [va] _).alloc _).alloc _).alloc _, ?_, ?_, ?_, h.kept hb⟩
  · have := ((Arr.new (w.alloc (.cells #[va] 41)) [vb] 41).alloc (.cells (I64 Z16).toArray 92)).alloc (.cells (I64 Z16).toArray 92)
    rw [World.size_alloc] at this
    exact this
  · have := (Arr.new ((w.alloc (.cells #[va] 41)).alloc (.cells #[vb] 41)) (I64 Z16) 92).alloc (.cells (I64 Z16).toArray 92)
    rw [World.size_alloc, World.size_alloc] at this
    exact this
  · have := Arr.new (((w.alloc (.cells #[va] 41)).alloc (.cells #[vb] 41)).alloc (.cells (I64 Z16).toArray 92)) (I64 Z16) 92
    rw [World.size_alloc, World.size_alloc, World.size_alloc] at this
    exact this

set_option maxHeartbeats 2000000 in
theorem implMus (a : Option Addr) (n c : Nat) (xs : List Int) (b : Option Addr) (m d : Nat) (ys : List Int) (w : World) (hx : Is w a n c xs) (hy : Is w b m d ys) (hV : Vr w 6 (I64 OL)) :
    Calls Tryz.prog 80 #[.agg #[.slice a n c], .agg #[.slice b m d]] w fun e w' => e = .returned (.tuple #[.agg (I64 (scL xs)).toArray, .agg (I64 (scL ys)).toArray, .bool (scOk xs && scOk ys)]) ∧ Below w.heap.size w w' := by
  obtain ⟨W, hW⟩ : ∃ W, W = (((w.alloc (.cells #[.slice a n c] 41)).alloc (.cells #[.slice b m d] 41)).alloc (.cells #[.int .i64 0, .int .i64 0, .int .i64 0, .int .i64 0, .int .i64 0, .int .i64 0, .int .i64 0, .int .i64 0, .int .i64 0, .int .i64 0, .int .i64 0, .int .i64 0, .int .i64 0, .int .i64 0, .int .i64 0, .int .i64 0] 92)).alloc (.cells #[.int .i64 0, .int .i64 0, .int .i64 0, .int .i64 0, .int .i64 0, .int .i64 0, .int .i64 0, .int .i64 0, .int .i64 0, .int .i64 0, .int .i64 0, .int .i64 0, .int .i64 0, .int .i64 0, .int .i64 0, .int .i64 0] 92) := ⟨_, rfl⟩
  have EE : P4 w W (.slice a n c) (.slice b m d) := by rw [hW]; exact P4.new _ _ hV
  have HO : Hid (∀ Z, Below w.heap.size w Z → Calls Tryz.prog 64 #[.slice a n c] Z fun e w' => e = .returned (.tuple #[.agg (I64 (lmL xs)).toArray, .bool (lmOk xs)]) ∧ Below Z.heap.size Z w') := by
    unfold Hid; intro Z hZ; exact implLimbsOf a n c xs Z (hx.below hZ)
  have HP : Hid (∀ Z, Below w.heap.size w Z → Calls Tryz.prog 64 #[.slice b m d] Z fun e w' => e = .returned (.tuple #[.agg (I64 (lmL ys)).toArray, .bool (lmOk ys)]) ∧ Below Z.heap.size Z w') := by
    unfold Hid; intro Z hZ; exact implLimbsOf b m d ys Z (hy.below hZ)
  have HM : Hid (∀ Z, Vr Z 6 (I64 OL) → Calls Tryz.prog 58 #[.agg (I64 (lmL xs)).toArray, .bool (lmOk xs)] Z fun e w' => e = .returned (.tuple #[.agg (I64 (scL xs)).toArray, .bool (scOk xs)]) ∧ Below Z.heap.size Z w') := by
    unfold Hid; intro Z hZ; exact implMuSc xs Z hZ
  have HN : Hid (∀ Z, Vr Z 6 (I64 OL) → Calls Tryz.prog 58 #[.agg (I64 (lmL ys)).toArray, .bool (lmOk ys)] Z fun e w' => e = .returned (.tuple #[.agg (I64 (scL ys)).toArray, .bool (scOk ys)]) ∧ Below Z.heap.size Z w') := by
    unfold Hid; intro Z hZ; exact implMuSc ys Z hZ
  have hSl := scL_len xs
  have hTl := scL_len ys
  obtain ⟨L, hL⟩ : ∃ L, L = lmL xs := ⟨_, rfl⟩
  obtain ⟨p, hp⟩ : ∃ p, p = lmOk xs := ⟨_, rfl⟩
  obtain ⟨S, hS⟩ : ∃ S, S = scL xs := ⟨_, rfl⟩
  obtain ⟨M, hM⟩ : ∃ M, M = lmL ys := ⟨_, rfl⟩
  obtain ⟨q, hq⟩ : ∃ q, q = lmOk ys := ⟨_, rfl⟩
  obtain ⟨T, hT⟩ : ∃ T, T = scL ys := ⟨_, rfl⟩
  obtain ⟨u, hu⟩ : ∃ u, u = scOk xs := ⟨_, rfl⟩
  obtain ⟨v, hv⟩ : ∃ v, v = scOk ys := ⟨_, rfl⟩
  rw [← hL, ← hp] at HO HM
  rw [← hM, ← hq] at HP HN
  rw [← hS, ← hu] at HM ⊢
  rw [← hT, ← hv] at HN ⊢
  rw [← hS] at hSl
  rw [← hT] at hTl
  have his : (Tryz.prog.info? 92).map (·.size) = some (I64 S).toArray.size := by simpa [hSl] using infoM
  have hit : (Tryz.prog.info? 92).map (·.size) = some (I64 T).toArray.size := by simpa [hTl] using infoM
  have hisl : (Tryz.prog.info? 92).map (·.size) = some (I64 S).length := by simpa [hSl] using infoM
  have hitl : (Tryz.prog.info? 92).map (·.size) = some (I64 T).length := by simpa [hTl] using infoM
  clear hL hp hS hM hq hT hu hv hx hy hV
  go_enter Tryz.func80, Tryz.ntmps80
  go_wp2_with fail
  rw [← hW]
  refine (HO.out _ EE.fr).mono ?_
  rintro e w1 ⟨rfl, hb1⟩
  replace EE := EE.go hb1
  clear hW hb1 HO
  go_wp2_with fail
  refine (HM.out _ EE.vr).mono ?_
  rintro e w2 ⟨rfl, hb2⟩
  replace EE := EE.go hb2
  have hlt2 := EE.r2.lt
  obtain ⟨bV, p1, q1⟩ := laid_mu w2 S
  replace EE := EE.go bV
  clear hb2 bV HM
  have cb : ((w2.alloc (.cells #[.int .i64 0, .int .i64 0, .int .i64 0, .int .i64 0, .int .i64 0, .int .i64 0, .int .i64 0, .int .i64 0, .int .i64 0, .int .i64 0, .int .i64 0, .int .i64 0, .int .i64 0, .int .i64 0, .int .i64 0, .int .i64 0] 92)).setRow w2.heap.size (I64 S).toArray).cell? ⟨w.heap.size + 1, 0, none⟩ = some (.slice b m d) := EE.pb.cell 0
  go_wp2_with (refine wpList_store_row rfl 92 _ _ rfl w2.heap.size (I64 S).toArray rfl rfl 92 _ q1 his (by simp [hSl]) (by simp [Value.oneCell']) ?_)
  obtain ⟨V, hVV⟩ : ∃ V, V = (w2.alloc (.cells #[.int .i64 0, .int .i64 0, .int .i64 0, .int .i64 0, .int .i64 0, .int .i64 0, .int .i64 0, .int .i64 0, .int .i64 0, .int .i64 0, .int .i64 0, .int .i64 0, .int .i64 0, .int .i64 0, .int .i64 0, .int .i64 0] 92)).setRow w2.heap.size (I64 S).toArray := ⟨_, rfl⟩
  obtain ⟨E, hE⟩ : ∃ E, E = w2.heap.size := ⟨_, rfl⟩
  rw [← hVV] at EE p1 ⊢
  rw [← hE] at p1 hlt2 ⊢
  clear hVV hE q1 cb
  refine (HP.out _ EE.fr).mono ?_
  rintro e w3 ⟨rfl, hb3⟩
  replace EE := EE.go hb3
  replace p1 := p1.kept hb3
  clear hb3 HP
  go_wp2_with fail
  refine (HN.out _ EE.vr).mono ?_
  rintro e w4 ⟨rfl, hb4⟩
  replace EE := EE.go hb4
  replace p1 := p1.kept hb4
  have hlt4 := p1.lt
  obtain ⟨bV, p2, q2⟩ := laid_mu w4 T
  replace EE := EE.go bV
  replace p1 := p1.kept bV
  clear hb4 bV HN
  go_wp2_with (refine wpList_store_row rfl 92 _ _ rfl w4.heap.size (I64 T).toArray rfl rfl 92 _ q2 hit (by simp [hTl]) (by simp [Value.oneCell']) ?_)
  obtain ⟨V, hVV⟩ : ∃ V, V = (w4.alloc (.cells #[.int .i64 0, .int .i64 0, .int .i64 0, .int .i64 0, .int .i64 0, .int .i64 0, .int .i64 0, .int .i64 0, .int .i64 0, .int .i64 0, .int .i64 0, .int .i64 0, .int .i64 0, .int .i64 0, .int .i64 0, .int .i64 0] 92)).setRow w4.heap.size (I64 T).toArray := ⟨_, rfl⟩
  obtain ⟨F, hF⟩ : ∃ F, F = w4.heap.size := ⟨_, rfl⟩
  rw [← hVV] at EE p1 p2 ⊢
  rw [← hF] at p2 hlt4 ⊢
  clear hVV hF q2
  have hu : Tryz.prog.underlying 92 = some _ := Tryz.underlying92
  have p1d := p1.drew
  have p2d := p2.drew
  have r1d := EE.r1.drew
  have r2d := EE.r2.drew
  have frd : Below w.heap.size w V.drew := EE.fr.trans ((Below.refl _ _).drew.mono EE.fr.size)
  have hoS := one_lm S
  have hoT := one_lm T
  clear EE p1 p2
  obtain ⟨X, hX⟩ : ∃ X, X = V.drew.setCells (w.heap.size + 2) 0 (I64 S) := ⟨_, rfl⟩
  have x1 : Arr X (w.heap.size + 2) 92 (I64 S) := by rw [hX]; exact Arr.setCells0 r1d (by simp [hSl])
  have x2 : Arr X (w.heap.size + 3) 92 (I64 Z16) := by rw [hX]; exact Arr.setCellsO (by omega) _ _ r2d
  have xE : Arr X E 92 (I64 S) := by rw [hX]; exact Arr.setCellsO (by omega) _ _ p1d
  have xF : Arr X F 92 (I64 T) := by rw [hX]; exact Arr.setCellsO (by omega) _ _ p2d
  have xB : Below w.heap.size w X := by rw [hX]; exact setCells_below (by omega) _ _ frd
  obtain ⟨Y, hY⟩ : ∃ Y, Y = X.setCells (w.heap.size + 3) 0 (I64 T) := ⟨_, rfl⟩
  have y1 : Arr Y (w.heap.size + 2) 92 (I64 S) := by rw [hY]; exact Arr.setCellsO (by omega) _ _ x1
  have y2 : Arr Y (w.heap.size + 3) 92 (I64 T) := by rw [hY]; exact Arr.setCells0 x2 (by simp [hTl])
  have yE : Arr Y E 92 (I64 S) := by rw [hY]; exact Arr.setCellsO (by omega) _ _ xE
  have yF : Arr Y F 92 (I64 T) := by rw [hY]; exact Arr.setCellsO (by omega) _ _ xF
  have yB : Below w.heap.size w Y := by rw [hY]; exact setCells_below (by omega) _ _ xB
  have th1 : V.drew.there (w.heap.size + 2) 0 (I64 S).toArray.size := by have := arr_there r1d; simpa [hSl] using this
  have th2 : X.there (w.heap.size + 3) 0 (I64 T).toArray.size := by have := arr_there x2; simpa [hTl] using this
  clear r1d r2d x1 x2 frd xB
  refine wp_region_held_drew (S := fun W => W.rangeAt E 0 (I64 S) ∧ W.rangeAt F 0 (I64 T)) (by kernel_rfl) ⟨arr_range p1d, arr_range p2d⟩ (fun hHeld => ?_)
  refine wpAnyH_take (i := 0) (oi := { dst := some 29, op := Op.load 92 (Operand.tmp 7), type := 92, pos := "l05_scalar.go:86", after := #[], guard := none }) (v := _) rfl (by kernel_rfl) (by kernel_rfl) (by kernel_rfl) (fun _ _ _ h => h) (yieldsIf_load_mid (by rfl) _ _ rfl _ _ rfl (I64 S) _ (fun _ h => h.1) hu rfl hisl) (by assumption) ?_
  simp only [Act.put, List.setIfInBounds_toArray, List.set_cons_zero, List.set_cons_succ]
  refine wpAnyH_take (i := 1) (oi := { dst := some 30, op := Op.load 92 (Operand.tmp 9), type := 92, pos := "l05_scalar.go:86", after := #[{ on := 6, ground := Ground.gcOnly Departure.lateStores }], guard := none }) (v := _) rfl (by kernel_rfl) (by kernel_rfl) (by kernel_rfl) (fun _ _ _ h => h) (yieldsIf_load_mid (by rfl) _ _ rfl _ _ rfl (I64 T) _ (fun _ h => h.2) hu rfl hitl) (by assumption) ?_
  simp only [Act.put, List.setIfInBounds_toArray, List.set_cons_zero, List.set_cons_succ]
  refine wpAnyH_take (i := 2) (oi := { dst := some 31, op := Op.move (Operand.tmp 8), type := 4, pos := "l05_scalar.go:86", after := #[], guard := none }) (v := .bool u) rfl (by kernel_rfl) (by kernel_rfl) (by kernel_rfl) (fun _ _ _ h => h) (.inl ⟨by rfl, fun _ _ => by rfl⟩) (by assumption) ?_
  simp only [Act.put, List.setIfInBounds_toArray, List.set_cons_zero, List.set_cons_succ]
  refine wpAnyH_take (i := 3) (oi := { dst := some 32, op := Op.move (Operand.tmp 31), type := 4, pos := "l05_scalar.go:86", after := #[{ on := 2, ground := Ground.data }], guard := none }) (v := .bool u) rfl (by kernel_rfl) (by kernel_rfl) (by kernel_rfl) (fun _ _ _ h => h) (.inl ⟨by rfl, fun _ _ => by rfl⟩) (by assumption) ?_
  simp only [Act.put, List.setIfInBounds_toArray, List.set_cons_zero, List.set_cons_succ]
  cases u with
  | true =>
    refine wpAnyH_take (i := 4) (oi := qQi0) (v := .bool v) rfl (by kernel_rfl) (by kernel_rfl) (by kernel_rfl) (fun _ _ _ h => h) (.inl ⟨by rfl, fun _ _ => by rfl⟩) (by assumption) ?_
    simp only [Act.put, List.setIfInBounds_toArray, List.set_cons_zero, List.set_cons_succ]
    refine wpAnyH_take (i := 5) (oi := qQi1) (v := .bool v) rfl (by kernel_rfl) (by kernel_rfl) (by kernel_rfl) (fun _ _ _ h => h) (.inl ⟨by rfl, fun _ _ => by rfl⟩) (by assumption) ?_
    simp only [Act.put, List.setIfInBounds_toArray, List.set_cons_zero, List.set_cons_succ]
    refine wpAnyH_ready (rs := [6]) (by kernel_rfl) (by simp) (AllReadyH.cons (o := qQi2) rfl (fun K hK => ?_) AllReadyH.nil)
    rw [if_pos (by rfl)]
    refine wp_store_mid _ _ _ rfl _ _ (I64 S).toArray rfl rfl th1 his (all_oneCell_toArray hoS) ?_
    simp only [Act.put]
    rw [← hX]
    clear hX
    refine hK.out _ _ ⟨arr_range xE, arr_range xF⟩ (fun hHeld => ?_)
    clear hK K
    refine wpAnyH_ready (rs := [7]) (by kernel_rfl) (by simp) (AllReadyH.cons (o := qQi3) rfl (fun K hK => ?_) AllReadyH.nil)
    rw [if_pos (by rfl)]
    refine wp_store_mid _ _ _ rfl _ _ (I64 T).toArray rfl rfl th2 hit (all_oneCell_toArray hoT) ?_
    simp only [Act.put]
    rw [← hY]
    clear hY
    refine hK.out _ _ ⟨arr_range yE, arr_range yF⟩ (fun hHeld => ?_)
    clear hK K
    refine wpAnyH_ready (rs := [8]) (by kernel_rfl) (by simp) (AllReadyH.cons (o := { dst := some 6, op := Op.assign (Operand.tmp 34), type := 4, pos := "l05_scalar.go:86", after := #[{ on := 5, ground := Ground.data }, { on := 7, ground := Ground.chain }, { on := 0, ground := Ground.phase }, { on := 1, ground := Ground.phase }, { on := 2, ground := Ground.phase }, { on := 3, ground := Ground.phase }, { on := 4, ground := Ground.phase }, { on := 5, ground := Ground.phase }, { on := 6, ground := Ground.phase }, { on := 7, ground := Ground.phase }], guard := none }) rfl (fun K hK => ?_) AllReadyH.nil)
    go_simp
    refine hK.out _ _ ⟨arr_range yE, arr_range yF⟩ (fun hHeld => ?_)
    clear hK K
    refine wpAnyH_done (by kernel_rfl) ?_ _
    go_wp2
    exact bodyPost_ret (results_two_tmp (cs := I64 S) (ds := I64 T) rfl rfl rfl rfl y1 y2 hu rfl hisl hitl) rfl ⟨rfl, yB⟩
  | false =>
    refine wpAnyH_take (i := 4) (oi := qQi0) (v := undef) rfl (by kernel_rfl) (by kernel_rfl) (by kernel_rfl) (fun _ _ _ h => h) (.inr ⟨by rfl, rfl⟩) (by assumption) ?_
    simp only [Act.put, List.setIfInBounds_toArray, List.set_cons_zero, List.set_cons_succ]
    refine wpAnyH_take (i := 5) (oi := qQi1) (v := .bool false) rfl (by kernel_rfl) (by kernel_rfl) (by kernel_rfl) (fun _ _ _ h => h) (.inl ⟨by rfl, fun _ _ => by rfl⟩) (by assumption) ?_
    simp only [Act.put, List.setIfInBounds_toArray, List.set_cons_zero, List.set_cons_succ]
    refine wpAnyH_ready (rs := [6]) (by kernel_rfl) (by simp) (AllReadyH.cons (o := qQi2) rfl (fun K hK => ?_) AllReadyH.nil)
    rw [if_pos (by rfl)]
    refine wp_store_mid _ _ _ rfl _ _ (I64 S).toArray rfl rfl th1 his (all_oneCell_toArray hoS) ?_
    simp only [Act.put]
    rw [← hX]
    clear hX
    refine hK.out _ _ ⟨arr_range xE, arr_range xF⟩ (fun hHeld => ?_)
    clear hK K
    refine wpAnyH_ready (rs := [7]) (by kernel_rfl) (by simp) (AllReadyH.cons (o := qQi3) rfl (fun K hK => ?_) AllReadyH.nil)
    rw [if_pos (by rfl)]
    refine wp_store_mid _ _ _ rfl _ _ (I64 T).toArray rfl rfl th2 hit (all_oneCell_toArray hoT) ?_
    simp only [Act.put]
    rw [← hY]
    clear hY
    refine hK.out _ _ ⟨arr_range yE, arr_range yF⟩ (fun hHeld => ?_)
    clear hK K
    refine wpAnyH_ready (rs := [8]) (by kernel_rfl) (by simp) (AllReadyH.cons (o := { dst := some 6, op := Op.assign (Operand.tmp 34), type := 4, pos := "l05_scalar.go:86", after := #[{ on := 5, ground := Ground.data }, { on := 7, ground := Ground.chain }, { on := 0, ground := Ground.phase }, { on := 1, ground := Ground.phase }, { on := 2, ground := Ground.phase }, { on := 3, ground := Ground.phase }, { on := 4, ground := Ground.phase }, { on := 5, ground := Ground.phase }, { on := 6, ground := Ground.phase }, { on := 7, ground := Ground.phase }], guard := none }) rfl (fun K hK => ?_) AllReadyH.nil)
    go_simp
    refine hK.out _ _ ⟨arr_range yE, arr_range yF⟩ (fun hHeld => ?_)
    clear hK K
    refine wpAnyH_done (by kernel_rfl) ?_ _
    go_wp2
    exact bodyPost_ret (results_two_tmp (cs := I64 S) (ds := I64 T) rfl rfl rfl rfl y1 y2 hu rfl hisl hitl) rfl ⟨rfl, yB⟩

end Go.Proofs.YtihoaakbkffejaaGreatDoor
namespace Go.Proofs.YtihoaakbkffejaaGreatDoor
open Go.RowKit
set_option maxRecDepth 100000

/-- Two multipliers that are read, the result's cell, and the program's order. -/
structure M4 (w W : World) (a b : List Int) : Prop where
  fr : Below w.heap.size w W
  pa : Arr W w.heap.size 92 (I64 a)
  pb : Arr W (w.heap.size + 1) 92 (I64 b)
  pr : Arr W (w.heap.size + 2) 92 (I64 Z16)
  vr : Vr W 6 (I64 OL)
  g0 : 6 < w.heap.size
theorem M4.go {w A B : World} {a b : List Int} (h : M4 w A a b) (hb : Below A.heap.size A B) : M4 w B a b := ⟨h.fr.trans (hb.mono h.fr.size), h.pa.kept hb, h.pb.kept hb, h.pr.kept hb, h.vr.kept hb, h.g0⟩
theorem M4.all {w W : World} {a b : List Int} (h : M4 w W a b) : W.rangeAt w.heap.size 0 (I64 a) ∧ W.rangeAt (w.heap.size + 1) 0 (I64 b) ∧ W.rangeAt 6 0 (I64 OL) := ⟨arr_range h.pa, arr_range h.pb, vr_range h.vr⟩
theorem M4.new {w : World} (a b : List Int) (h : Vr w 6 (I64 OL)) : M4 w (((w.alloc (.cells (I64 a).toArray 92)).alloc (.cells (I64 b).toArray 92)).alloc (.cells (I64 Z16).toArray 92)) a b := by
  have hb : Below w.heap.size w (((w.alloc (.cells (I64 a).toArray 92)).alloc (.cells (I64 b).toArray 92)).alloc (.cells (I64 Z16).toArray 92)) := (((Below.refl _ _).alloc (Nat.le_refl _) _).alloc (by simp) _).alloc (by simp; omega) _
  refine ⟨hb, ((Arr.new w (I64 a) _).alloc _).alloc _, ?_, ?_, h.kept hb, h.lt⟩
  · have := (Arr.new (w.alloc (.cells (I64 a).toArray 92)) (I64 b) 92).alloc (.cells (I64 Z16).toArray 92)
    rw [World.size_alloc] at this
    exact this
  · have := Arr.new ((w.alloc (.cells (I64 a).toArray 92)).alloc (.cells (I64 b).toArray 92)) (I64 Z16) 92
    rw [World.size_alloc, World.size_alloc] at this
    exact this
theorem M4.put {w W : World} {a b R : List Int} (h : M4 w W a b) (hR : R.length = 16) : Arr (W.setCells (w.heap.size + 1 + 1) 0 (I64 R)) (w.heap.size + 1 + 1) 92 (I64 R) ∧ Below w.heap.size w (W.setCells (w.heap.size + 1 + 1) 0 (I64 R)) ∧
    ((W.setCells (w.heap.size + 1 + 1) 0 (I64 R)).rangeAt w.heap.size 0 (I64 a) ∧ (W.setCells (w.heap.size + 1 + 1) 0 (I64 R)).rangeAt (w.heap.size + 1) 0 (I64 b) ∧ (W.setCells (w.heap.size + 1 + 1) 0 (I64 R)).rangeAt 6 0 (I64 OL)) ∧ W.there (w.heap.size + 1 + 1) 0 (I64 R).toArray.size := by
  have hg := h.pa.lt
  have h0 : 6 ≠ w.heap.size + 1 + 1 := by have := h.g0; omega
  exact ⟨Arr.setCells0 h.pr (by simp [hR]), setCells_below (by omega) _ _ h.fr, ⟨arr_range (Arr.setCellsO (by omega) _ _ h.pa), arr_range (Arr.setCellsO (by omega) _ _ h.pb), vr_range (Vr.setCellsO h0 h.vr)⟩, by have := arr_there h.pr; simpa [hR] using this⟩
/-- What is below twice the order is brought below it. -/
theorem implLessO (x : Int) (w : World) (h0 : 0 ≤ x) (h1 : x < 2 * qO) :
    Calls Tryz.prog 126 #[.agg (I64 (lim 16 x)).toArray, .agg (I64 OL).toArray] w fun e w' => e = .returned (.agg (I64 (redO x)).toArray) ∧ Below w.heap.size w w' := by
  have := implLess (lim 16 x) OL w (lim_len _ _) OL_len (lim_lm _ _) OL_lm
  rw [val_lim16 h0 h1, OL_val] at this
  have hls := lessO h0 h1
  have e : lim 16 (if x < qO then x else x - qO) = redO x := by
    split
    · rename_i h; exact hls.1 h
    · rename_i h; exact hls.2 h
  rw [e] at this
  exact this

set_option maxHeartbeats 2000000 in
theorem implMuSum (a b : List Int) (w : World) (ha : scOk a = true) (hb : scOk b = true) (hV : Vr w 6 (I64 OL)) :
    Calls Tryz.prog 82 #[.agg (I64 a).toArray, .agg (I64 b).toArray] w fun e w' => e = .returned (.agg (I64 (redO (val a + val b))).toArray) ∧ Below w.heap.size w w' := by
  obtain ⟨la16, la, va⟩ := (scOk_iff a).1 ha
  obtain ⟨lb16, lb, vb⟩ := (scOk_iff b).1 hb
  have na := val_nonneg (fun x hx => (la x hx).1)
  have nb := val_nonneg (fun x hx => (lb x hx).1)
  obtain ⟨R, hR⟩ : ∃ R, R = redO (val a + val b) := ⟨_, rfl⟩
  have hRl : R.length = 16 := by rw [hR]; exact redO_len _
  obtain ⟨S, hS⟩ : ∃ S, S = lim 16 (val a + val b) := ⟨_, rfl⟩
  have HPL : Hid (∀ Z, Calls Tryz.prog 125 #[.agg (I64 a).toArray, .agg (I64 b).toArray] Z fun e w' => e = .returned (.agg (I64 S).toArray) ∧ Below Z.heap.size Z w') := by
    unfold Hid; intro Z
    have := implPlus a b Z la16 lb16 la lb
    rw [plus_lim la16 lb16 (by omega) (by unfold qO at va vb; omega), ← hS] at this
    exact this
  have HLS : Hid (∀ Z, Calls Tryz.prog 126 #[.agg (I64 S).toArray, .agg (I64 OL).toArray] Z fun e w' => e = .returned (.agg (I64 R).toArray) ∧ Below Z.heap.size Z w') := by
    unfold Hid; intro Z; rw [hS, hR]; exact implLessO _ Z (by omega) (by omega)
  rw [← hR]
  obtain ⟨W, hW⟩ : ∃ W, W = ((w.alloc (.cells (I64 a).toArray 92)).alloc (.cells (I64 b).toArray 92)).alloc (.cells #[.int .i64 0, .int .i64 0, .int .i64 0, .int .i64 0, .int .i64 0, .int .i64 0, .int .i64 0, .int .i64 0, .int .i64 0, .int .i64 0, .int .i64 0, .int .i64 0, .int .i64 0, .int .i64 0, .int .i64 0, .int .i64 0] 92) := ⟨_, rfl⟩
  have EE : M4 w W.drew a b := by
    have : M4 w W a b := by rw [hW]; exact M4.new a b hV
    exact this.go (Below.refl _ _).drew
  obtain ⟨A, hA⟩ : ∃ A, A = (I64 a).toArray := ⟨_, rfl⟩
  obtain ⟨B, hB⟩ : ∃ B, B = (I64 b).toArray := ⟨_, rfl⟩
  rw [← hA, ← hB] at hW ⊢
  have hone := one_lm R
  have hu : Tryz.prog.underlying 65 = some (.array 16 3) := Tryz.underlying65
  have hia : (Tryz.prog.info? 65).map (·.size) = some (I64 a).length := by simpa [la16] using infoL
  have hib : (Tryz.prog.info? 65).map (·.size) = some (I64 b).length := by simpa [lb16] using infoL
  have hip : (Tryz.prog.info? 65).map (·.size) = some (I64 OL).length := infoL
  have hir : (Tryz.prog.info? 92).map (·.size) = some (I64 R).toArray.size := by simpa [hRl] using infoM
  clear ha hb la lb va vb na nb hR hS hA hB hV
  go_enter Tryz.func82, Tryz.ntmps82
  go_wp2
  rw [← hW]
  clear hW
  refine wp_region_held_drew (S := fun W => W.rangeAt w.heap.size 0 (I64 a) ∧ W.rangeAt (w.heap.size + 1) 0 (I64 b) ∧ W.rangeAt 6 0 (I64 OL)) (by kernel_rfl) EE.all (fun hHeld => ?_)
  refine wpAnyH_take (i := 0) (oi := { dst := some 5, op := Op.fieldAddr 92 (Operand.tmp 2) 0, type := 0, pos := "l05_scalar.go:99", after := #[], guard := none }) (v := .pointer (some ⟨w.heap.size, 0, none⟩)) rfl (by kernel_rfl) (by kernel_rfl) (by kernel_rfl) (fun _ _ _ h => h) (.inl ⟨by rfl, fun _ _ => by rfl⟩) (by assumption) ?_
  simp only [Act.put, List.setIfInBounds_toArray, List.set_cons_zero, List.set_cons_succ]
  refine wpAnyH_take (i := 1) (oi := { dst := some 6, op := Op.load 65 (Operand.tmp 5), type := 65, pos := "l05_scalar.go:99", after := #[{ on := 0, ground := Ground.data }], guard := none }) (v := _) rfl (by kernel_rfl) (by kernel_rfl) (by kernel_rfl) (fun _ _ _ h => h) (yieldsIf_load_mid (by rfl) _ _ rfl _ _ rfl (I64 a) _ (fun _ h => h.1) hu rfl hia) (by assumption) ?_
  simp only [Act.put, List.setIfInBounds_toArray, List.set_cons_zero, List.set_cons_succ]
  refine wpAnyH_take (i := 2) (oi := { dst := some 7, op := Op.fieldAddr 92 (Operand.tmp 3) 0, type := 0, pos := "l05_scalar.go:99", after := #[], guard := none }) (v := .pointer (some ⟨w.heap.size + 1, 0, none⟩)) rfl (by kernel_rfl) (by kernel_rfl) (by kernel_rfl) (fun _ _ _ h => h) (.inl ⟨by rfl, fun _ _ => by rfl⟩) (by assumption) ?_
  simp only [Act.put, List.setIfInBounds_toArray, List.set_cons_zero, List.set_cons_succ]
  refine wpAnyH_take (i := 3) (oi := { dst := some 8, op := Op.load 65 (Operand.tmp 7), type := 65, pos := "l05_scalar.go:99", after := #[{ on := 2, ground := Ground.data }], guard := none }) (v := _) rfl (by kernel_rfl) (by kernel_rfl) (by kernel_rfl) (fun _ _ _ h => h) (yieldsIf_load_mid (by rfl) _ _ rfl _ _ rfl (I64 b) _ (fun _ h => h.2.1) hu rfl hib) (by assumption) ?_
  simp only [Act.put, List.setIfInBounds_toArray, List.set_cons_zero, List.set_cons_succ]
  refine wpAnyH_take (i := 5) (oi := { dst := some 10, op := Op.load 65 (Operand.global 6), type := 65, pos := "l05_scalar.go:99", after := #[], guard := none }) (v := _) rfl (by kernel_rfl) (by kernel_rfl) (by kernel_rfl) (fun _ _ _ h => h) (yieldsIf_load_mid (by rfl) _ _ rfl _ _ rfl (I64 OL) _ (fun _ h => h.2.2) hu rfl hip) (by assumption) ?_
  simp only [Act.put, List.setIfInBounds_toArray, List.set_cons_zero, List.set_cons_succ]
  refine wpAnyH_ready (rs := [4]) (by kernel_rfl) (by simp) (AllReadyH.cons (o := { dst := some 9, op := Op.call { callee := Callee.value (Operand.func 125), args := #[Operand.tmp 6, Operand.tmp 8], argTypes := #[65, 65] }, type := 65, pos := "l05_scalar.go:99", after := #[{ on := 1, ground := Ground.data }, { on := 3, ground := Ground.data }], guard := none }) rfl (fun K hK => ?_) AllReadyH.nil)
  go_simp
  refine (HPL.out _).mono ?_
  rintro e w1 ⟨rfl, hb1⟩
  replace EE := EE.go hb1
  go_wp2_with fail
  refine hK.out _ _ EE.all (fun hHeld => ?_)
  clear hK K hb1
  refine wpAnyH_ready (rs := [6]) (by kernel_rfl) (by simp) (AllReadyH.cons (o := { dst := some 11, op := Op.call { callee := Callee.value (Operand.func 126), args := #[Operand.tmp 9, Operand.tmp 10], argTypes := #[65, 65] }, type := 65, pos := "l05_scalar.go:99", after := #[{ on := 4, ground := Ground.data }, { on := 5, ground := Ground.data }, { on := 4, ground := Ground.chain }], guard := none }) rfl (fun K hK => ?_) AllReadyH.nil)
  go_simp
  refine (HLS.out _).mono ?_
  rintro e w2 ⟨rfl, hb2⟩
  replace EE := EE.go hb2
  go_wp2_with fail
  refine hK.out _ _ EE.all (fun hHeld => ?_)
  clear hK K hb2
  refine wpAnyH_take (i := 7) (oi := { dst := some 12, op := Op.build 92 #[(0, Operand.tmp 11)], type := 92, pos := "l05_scalar.go:99", after := #[{ on := 6, ground := Ground.data }], guard := none }) (v := _) rfl (by kernel_rfl) (by kernel_rfl) (by kernel_rfl) (fun _ _ _ h => h) (yieldsIf_mu (by rfl) _ rfl R hRl rfl) (by assumption) ?_
  simp only [Act.put, List.setIfInBounds_toArray, List.set_cons_zero, List.set_cons_succ]
  obtain ⟨hA5, hB5, hS5, hth⟩ := EE.put hRl
  refine wpAnyH_ready (rs := [8]) (by kernel_rfl) (by simp) (AllReadyH.cons (o := { dst := none, op := Op.store 92 (Operand.tmp 4) (Operand.tmp 12), type := 0, pos := "l05_scalar.go:99", after := #[{ on := 7, ground := Ground.data }, { on := 6, ground := Ground.chain }, { on := 0, ground := Ground.phase }, { on := 1, ground := Ground.phase }, { on := 2, ground := Ground.phase }, { on := 3, ground := Ground.phase }, { on := 4, ground := Ground.phase }, { on := 5, ground := Ground.phase }, { on := 6, ground := Ground.phase }, { on := 7, ground := Ground.phase }], guard := none }) rfl (fun K hK => ?_) AllReadyH.nil)
  rw [if_pos (by rfl)]
  refine wp_store_mid _ _ _ rfl _ _ (I64 R).toArray rfl rfl hth hir (all_oneCell_toArray hone) ?_
  simp only [Act.put]
  refine hK.out _ _ hS5 (fun hHeld => ?_)
  clear hK K
  refine wpAnyH_done (by kernel_rfl) ?_ _
  go_wp2
  exact bodyPost_ret (results_cell_row rfl _ _ (w.heap.size + 1 + 1) 92 (I64 R).toArray (0, 0) _ rfl hA5 Tryz.underlying92 rfl hir) rfl ⟨rfl, hB5⟩

end Go.Proofs.YtihoaakbkffejaaGreatDoor

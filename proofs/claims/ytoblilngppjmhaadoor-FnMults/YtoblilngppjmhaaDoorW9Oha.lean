/-
  What is proved here: the contract of the program's PtAdd; where its variables hold the prime and d; what the program's PtAdd answers where its arguments are points; where its variables hold the prime and d.
-/
import Derived.Test.YtoblilngppjmhaaDoorW9Yh
import Derived.Test.YtoblilngppjmhaaDoorW9Of
import Derived.Test.YtoblilngppjmhaaDoorW9Oc
namespace Go.Proofs.YtoblilngppjmhaaDoor
open Go.RowKit
set_option maxRecDepth 100000

set_option maxHeartbeats 8000000 in
theorem implPtAdd (a1 : Option Addr) (n1 c1 : Nat) (xs1 : List Int) (b1 : Option Addr) (m1 d1 : Nat) (ys1 : List Int) (a2 : Option Addr) (n2 c2 : Nat) (xs2 : List Int) (b2 : Option Addr) (m2 d2 : Nat) (ys2 : List Int) (w : World) (hx1 : Is w a1 n1 c1 xs1) (hy1 : Is w b1 m1 d1 ys1) (hx2 : Is w a2 n2 c2 xs2) (hy2 : Is w b2 m2 d2 ys2) (hV : Vr w 4 (I64 PL)) (hD : Vr w 2 (I64 DL)) :
    Calls Tryd.prog 15 #[.agg #[.slice a1 n1 c1, .slice b1 m1 d1], .agg #[.slice a2 n2 c2, .slice b2 m2 d2]] w fun e w' => ∃ v, e = .returned (.tuple #[v, .bool (ptOk xs1 ys1 && ptOk xs2 ys2)]) ∧ PtT 70 w w' v (ptx (ptOk xs1 ys1 && ptOk xs2 ys2) (add6 (mk6 xs1 ys1) (mk6 xs2 ys2))) (pty (ptOk xs1 ys1 && ptOk xs2 ys2) (add6 (mk6 xs1 ys1) (mk6 xs2 ys2))) ∧ Below w.heap.size w w' := by
  obtain ⟨p, hp⟩ : ∃ p, p = ptOk xs1 ys1 := ⟨_, rfl⟩
  obtain ⟨L, hL⟩ : ∃ l, l = opL xs1 ys1 := ⟨_, rfl⟩
  obtain ⟨P, hP⟩ : ∃ P, P = mk6 xs1 ys1 := ⟨_, rfl⟩
  have HO1 : Hid (∀ Z, Below w.heap.size w Z → Vr Z 4 (I64 PL) → Vr Z 2 (I64 DL) → Calls Tryd.prog 55 #[.agg #[.slice a1 n1 c1, .slice b1 m1 d1]] Z fun e w' => e = .returned (.tuple #[.agg (I64 L).toArray, .bool p]) ∧ Below Z.heap.size Z w') := by
    unfold Hid; intro Z hZ h1 h2; rw [hL, hp]; exact implPtOpen a1 n1 c1 xs1 b1 m1 d1 ys1 Z (hx1.below hZ) (hy1.below hZ) h1 h2
  have nL : L.length = 64 := by rw [hL]; exact opL_len _ _
  have iL : (Tryd.prog.info? 72).map (·.size) = some (I64 L).toArray.size := by simpa [nL] using infoLp
  have HLL : Hid (p = true → L = P.cells ∧ P.Ok) := by
    unfold Hid; intro h; rw [hp] at h; obtain ⟨k1, k2, _⟩ := (ptOk_iff _ _).1 h; rw [hL, hP]; unfold opL; rw [if_pos h]; exact ⟨rfl, mk6_ok k1 k2⟩
  obtain ⟨q, hq⟩ : ∃ p, p = ptOk xs2 ys2 := ⟨_, rfl⟩
  obtain ⟨M, hM⟩ : ∃ l, l = opL xs2 ys2 := ⟨_, rfl⟩
  obtain ⟨Q, hQ⟩ : ∃ P, P = mk6 xs2 ys2 := ⟨_, rfl⟩
  have HO2 : Hid (∀ Z, Below w.heap.size w Z → Vr Z 4 (I64 PL) → Vr Z 2 (I64 DL) → Calls Tryd.prog 55 #[.agg #[.slice a2 n2 c2, .slice b2 m2 d2]] Z fun e w' => e = .returned (.tuple #[.agg (I64 M).toArray, .bool q]) ∧ Below Z.heap.size Z w') := by
    unfold Hid; intro Z hZ h1 h2; rw [hM, hq]; exact implPtOpen a2 n2 c2 xs2 b2 m2 d2 ys2 Z (hx2.below hZ) (hy2.below hZ) h1 h2
  have nM : M.length = 64 := by rw [hM]; exact opL_len _ _
  have iM : (Tryd.prog.info? 72).map (·.size) = some (I64 M).toArray.size := by simpa [nM] using infoLp
  have HLM : Hid (q = true → M = Q.cells ∧ Q.Ok) := by
    unfold Hid; intro h; rw [hq] at h; obtain ⟨k1, k2, _⟩ := (ptOk_iff _ _).1 h; rw [hM, hQ]; unfold opL; rw [if_pos h]; exact ⟨rfl, mk6_ok k1 k2⟩
  obtain ⟨x, hx⟩ : ∃ x, x = flx (add6 (mk6 xs1 ys1) (mk6 xs2 ys2)) := ⟨_, rfl⟩
  obtain ⟨y, hy⟩ : ∃ y, y = fly (add6 (mk6 xs1 ys1) (mk6 xs2 ys2)) := ⟨_, rfl⟩
  have nx : x.length = 16 := by rw [hx]; exact red_len _
  have ny : y.length = 16 := by rw [hy]; exact red_len _
  obtain ⟨Lx, hLx⟩ : ∃ l, l = ptx (ptOk xs1 ys1 && ptOk xs2 ys2) (add6 (mk6 xs1 ys1) (mk6 xs2 ys2)) := ⟨_, rfl⟩
  obtain ⟨Ly, hLy⟩ : ∃ l, l = pty (ptOk xs1 ys1 && ptOk xs2 ys2) (add6 (mk6 xs1 ys1) (mk6 xs2 ys2)) := ⟨_, rfl⟩
  have HN : Hid ((p && q) = false → ∀ {w' : World}, PtT 70 w w' (.agg #[.slice none 0 0, .slice none 0 0]) Lx Ly) := by
    unfold Hid; intro h w'; rw [hp, hq] at h; rw [hLx, hLy, h]; exact ptT_nil _ _ _
  have HY : Hid ((p && q) = true → ∀ (V V' : World) (v : Value), PtT 70 V V' v x y → PtT 70 V V' v Lx Ly) := by
    unfold Hid; intro h V V' v k; rw [hp, hq] at h; rw [hLx, hLy, h]; unfold ptx pty; rw [if_pos rfl, if_pos rfl, ← hx, ← hy]; exact k
  obtain ⟨R, hR⟩ : ∃ R, R = join6 P Q := ⟨_, rfl⟩
  have HX : Hid (p = true → q = true → x = flx R ∧ y = fly R) := by
    unfold Hid; intro h k; rw [hp] at h; rw [hq] at k; rw [hx, hy, hR, hP, hQ]; exact ⟨(add_lists h k).1.symm, (add_lists h k).2.symm⟩
  have HD2 : Hid (p = true → q = true → ∀ Z, Vr Z 4 (I64 PL) → Vr Z 2 (I64 DL) → Calls Tryd.prog 57 #[.agg (I64 P.cells).toArray, .iface 72 (.agg (I64 Q.cells).toArray)] Z fun e w' => e = .returned (.iface 72 (.agg (I64 R.cells).toArray)) ∧ Below Z.heap.size Z w') := by
    unfold Hid; intro h k Z hZ hZ2; rw [hR]; exact implJoined P Q Z (HLL.out h).2 (HLM.out k).2 hZ hZ2
  have HC : Hid (p = true → q = true → ∀ Z, Vr Z 4 (I64 PL) → Calls Tryd.prog 56 #[.iface 72 (.agg (I64 R.cells).toArray)] Z fun e w' => ∃ v, e = .returned v ∧ PtT 70 Z w' v x y ∧ Below Z.heap.size Z w') := by
    unfold Hid; intro h k Z hZ; have hRo : R.Ok := by rw [hR]; exact long6_ok _ _ _ _
    rw [(HX.out h k).1, (HX.out h k).2]; exact implClosed R Z hRo hZ
  rw [← hLx, ← hLy, ← hp, ← hq]
  obtain ⟨W, hW⟩ : ∃ W, W = ((w.alloc (.cells #[.slice a1 n1 c1, .slice b1 m1 d1] 27)).alloc (.cells #[.slice a2 n2 c2, .slice b2 m2 d2] 27)).alloc (.cells #[.slice none 0 0, .slice none 0 0] 27) := ⟨_, rfl⟩
  have fr : Below w.heap.size w W := by rw [hW]; exact ((((Below.refl _ _).alloc (Nat.le_refl _) _).alloc (by simp) _).alloc (by simp; omega) _)
  have pa1 : Arr W w.heap.size 27 ([.slice a1 n1 c1, .slice b1 m1 d1]) := by
    rw [hW]
    have := ((Arr.new (w) ([.slice a1 n1 c1, .slice b1 m1 d1]) 27).alloc (.cells #[.slice a2 n2 c2, .slice b2 m2 d2] 27)).alloc (.cells #[.slice none 0 0, .slice none 0 0] 27)
    exact this
  have pa2 : Arr W (w.heap.size + 1) 27 ([.slice a2 n2 c2, .slice b2 m2 d2]) := by
    rw [hW]
    have := (Arr.new (w.alloc (.cells #[.slice a1 n1 c1, .slice b1 m1 d1] 27)) ([.slice a2 n2 c2, .slice b2 m2 d2]) 27).alloc (.cells #[.slice none 0 0, .slice none 0 0] 27)
    rw [World.size_alloc] at this
    exact this
  have pr : Arr W (w.heap.size + 2) 27 ([.slice none 0 0, .slice none 0 0]) := by
    rw [hW]
    have := Arr.new ((w.alloc (.cells #[.slice a1 n1 c1, .slice b1 m1 d1] 27)).alloc (.cells #[.slice a2 n2 c2, .slice b2 m2 d2] 27)) ([.slice none 0 0, .slice none 0 0]) 27
    rw [World.size_alloc, World.size_alloc] at this
    exact this
  have h0P := hV.lt
  have vP := hV.kept fr
  have h0D := hD.lt
  have vD := hD.kept fr
  clear hV hD
  clear hx hy hLx hLy hp hL hP hx1 hy1 hq hM hQ hx2 hy2 hR HX
  go_enter Tryd.func15, Tryd.ntmps15
  go_upto_region 1 with fail
  rw [← hW]
  clear hW
  go_wp2_with (refine wpList_load_row rfl 27 _ rfl w.heap.size rfl 27 ([Value.slice a1 n1 c1,  Value.slice b1 m1 d1]).toArray (0, 0) _ pa1 Tryd.underlying27 rfl infoPt ?_)
  refine (HO1.out _ fr vP vD).mono ?_
  rintro e y1 ⟨rfl, hb1⟩
  replace fr := fr.trans (hb1.mono fr.size)
  replace pa1 := pa1.kept hb1
  replace pa2 := pa2.kept hb1
  replace pr := pr.kept hb1
  replace vP := vP.kept hb1
  replace vD := vD.kept hb1
  clear hb1
  have hXL : w.heap.size < y1.heap.size ∧ (w.heap.size + 1) < y1.heap.size ∧ (w.heap.size + 2) < y1.heap.size ∧ w.heap.size ≤ y1.heap.size := ⟨pa1.lt, pa2.lt, pr.lt, fr.size⟩
  obtain ⟨bV, AL, q1⟩ := laid_lp y1 L
  replace fr := fr.trans (bV.mono fr.size)
  replace pa1 := pa1.kept bV
  replace pa2 := pa2.kept bV
  replace pr := pr.kept bV
  replace vP := vP.kept bV
  replace vD := vD.kept bV
  go_upto_region 2 with (refine wpList_store_row rfl 72 _ _ rfl y1.heap.size (I64 L).toArray rfl rfl 72 _ q1 iL (by simp [nL]) (by simp [Value.oneCell']) ?_)
  obtain ⟨V2, hVV⟩ : ∃ V, V = (y1.alloc (.cells #[.int .i64 0, .int .i64 0, .int .i64 0, .int .i64 0, .int .i64 0, .int .i64 0, .int .i64 0, .int .i64 0, .int .i64 0, .int .i64 0, .int .i64 0, .int .i64 0, .int .i64 0, .int .i64 0, .int .i64 0, .int .i64 0, .int .i64 0, .int .i64 0, .int .i64 0, .int .i64 0, .int .i64 0, .int .i64 0, .int .i64 0, .int .i64 0, .int .i64 0, .int .i64 0, .int .i64 0, .int .i64 0, .int .i64 0, .int .i64 0, .int .i64 0, .int .i64 0, .int .i64 0, .int .i64 0, .int .i64 0, .int .i64 0, .int .i64 0, .int .i64 0, .int .i64 0, .int .i64 0, .int .i64 0, .int .i64 0, .int .i64 0, .int .i64 0, .int .i64 0, .int .i64 0, .int .i64 0, .int .i64 0, .int .i64 0, .int .i64 0, .int .i64 0, .int .i64 0, .int .i64 0, .int .i64 0, .int .i64 0, .int .i64 0, .int .i64 0, .int .i64 0, .int .i64 0, .int .i64 0, .int .i64 0, .int .i64 0, .int .i64 0, .int .i64 0] 72)).setRow y1.heap.size (I64 L).toArray := ⟨_, rfl⟩
  obtain ⟨XL, hE⟩ : ∃ E, E = y1.heap.size := ⟨_, rfl⟩
  rw [← hVV] at fr pa1 pa2 pr vP vD AL ⊢
  rw [← hE] at AL hXL ⊢
  clear hVV hE q1 bV
  go_wp2_with (refine wpList_load_row rfl 27 _ rfl (w.heap.size + 1) rfl 27 ([Value.slice a2 n2 c2,  Value.slice b2 m2 d2]).toArray (0, 0) _ pa2 Tryd.underlying27 rfl infoPt ?_)
  refine (HO2.out _ fr vP vD).mono ?_
  rintro e y3 ⟨rfl, hb3⟩
  replace fr := fr.trans (hb3.mono fr.size)
  replace pa1 := pa1.kept hb3
  replace pa2 := pa2.kept hb3
  replace pr := pr.kept hb3
  replace vP := vP.kept hb3
  replace vD := vD.kept hb3
  replace AL := AL.kept hb3
  clear hb3
  have hXM : w.heap.size < y3.heap.size ∧ (w.heap.size + 1) < y3.heap.size ∧ (w.heap.size + 2) < y3.heap.size ∧ XL < y3.heap.size ∧ w.heap.size ≤ y3.heap.size := ⟨pa1.lt, pa2.lt, pr.lt, AL.lt, fr.size⟩
  obtain ⟨bV, AM, q1⟩ := laid_lp y3 M
  replace fr := fr.trans (bV.mono fr.size)
  replace pa1 := pa1.kept bV
  replace pa2 := pa2.kept bV
  replace pr := pr.kept bV
  replace vP := vP.kept bV
  replace vD := vD.kept bV
  replace AL := AL.kept bV
  go_upto_region 3 with (refine wpList_store_row rfl 72 _ _ rfl y3.heap.size (I64 M).toArray rfl rfl 72 _ q1 iM (by simp [nM]) (by simp [Value.oneCell']) ?_)
  obtain ⟨V4, hVV⟩ : ∃ V, V = (y3.alloc (.cells #[.int .i64 0, .int .i64 0, .int .i64 0, .int .i64 0, .int .i64 0, .int .i64 0, .int .i64 0, .int .i64 0, .int .i64 0, .int .i64 0, .int .i64 0, .int .i64 0, .int .i64 0, .int .i64 0, .int .i64 0, .int .i64 0, .int .i64 0, .int .i64 0, .int .i64 0, .int .i64 0, .int .i64 0, .int .i64 0, .int .i64 0, .int .i64 0, .int .i64 0, .int .i64 0, .int .i64 0, .int .i64 0, .int .i64 0, .int .i64 0, .int .i64 0, .int .i64 0, .int .i64 0, .int .i64 0, .int .i64 0, .int .i64 0, .int .i64 0, .int .i64 0, .int .i64 0, .int .i64 0, .int .i64 0, .int .i64 0, .int .i64 0, .int .i64 0, .int .i64 0, .int .i64 0, .int .i64 0, .int .i64 0, .int .i64 0, .int .i64 0, .int .i64 0, .int .i64 0, .int .i64 0, .int .i64 0, .int .i64 0, .int .i64 0, .int .i64 0, .int .i64 0, .int .i64 0, .int .i64 0, .int .i64 0, .int .i64 0, .int .i64 0, .int .i64 0] 72)).setRow y3.heap.size (I64 M).toArray := ⟨_, rfl⟩
  obtain ⟨XM, hE⟩ : ∃ E, E = y3.heap.size := ⟨_, rfl⟩
  rw [← hVV] at fr pa1 pa2 pr vP vD AL AM ⊢
  rw [← hE] at AM hXM ⊢
  clear hVV hE q1 bV
  cases p with
  | false =>
    have h2 := pr.row ([.slice none 0 0, .slice none 0 0])
    have HB : Hid _ := setRow_below fr (w.heap.size + 2) ([.slice none 0 0, .slice none 0 0]).toArray (by omega)
    go_wp2_with (refine wpList_store_row rfl 27 _ _ rfl (w.heap.size + 2) ([Value.slice none 0 0,  Value.slice none 0 0]).toArray rfl rfl 27 _ pr infoPt rfl (by simp [Value.oneCell']) ?_)
    exact bodyPost_ret (results_row_tmp (v := .bool false) (cs := [.slice none 0 0, .slice none 0 0]) rfl rfl rfl h2 Tryd.underlying27 rfl infoPt) rfl ⟨_, rfl, HN.out (by simp), HB.out⟩
  | true =>
    cases q with
    | false =>
      have h2 := pr.row ([.slice none 0 0, .slice none 0 0])
      have HB : Hid _ := setRow_below fr (w.heap.size + 2) ([.slice none 0 0, .slice none 0 0]).toArray (by omega)
      go_wp2_with (refine wpList_store_row rfl 27 _ _ rfl (w.heap.size + 2) ([Value.slice none 0 0,  Value.slice none 0 0]).toArray rfl rfl 27 _ pr infoPt rfl (by simp [Value.oneCell']) ?_)
      exact bodyPost_ret (results_row_tmp (v := .bool false) (cs := [.slice none 0 0, .slice none 0 0]) rfl rfl rfl h2 Tryd.underlying27 rfl infoPt) rfl ⟨_, rfl, HN.out (by simp), HB.out⟩
    | true =>
      obtain ⟨eL, hPo⟩ := HLL.out (by simp)
      subst eL
      obtain ⟨eM, hQo⟩ := HLM.out (by simp)
      subst eM
      have hip := infoLp' hPo
      have hiq := infoLp' hQo
      go_wp2_with (first
          | (refine wpList_load_row rfl 72 _ rfl XL rfl 72 (I64 P.cells).toArray (0, 0) _ AL Tryd.underlying72 rfl hip ?_)
          | (refine wpList_load_row rfl 72 _ rfl XM rfl 72 (I64 Q.cells).toArray (0, 0) _ AM Tryd.underlying72 rfl hiq ?_))
      refine (HD2.out (by simp) (by simp) _ vP vD).mono ?_
      rintro e y5 ⟨rfl, hb5⟩
      replace fr := fr.trans (hb5.mono fr.size)
      replace pa1 := pa1.kept hb5
      replace pa2 := pa2.kept hb5
      replace pr := pr.kept hb5
      replace vP := vP.kept hb5
      replace vD := vD.kept hb5
      replace AL := AL.kept hb5
      replace AM := AM.kept hb5
      clear hb5
      go_wp2_with fail
      have hl : w.heap.size + 2 < y5.heap.size := pr.lt
      refine (HC.out (by simp) (by simp) _ vP).mono ?_
      rintro e y6 ⟨v, rfl, hpt, hb6⟩
      replace fr := fr.trans (hb6.mono fr.size)
      replace pa1 := pa1.kept hb6
      replace pa2 := pa2.kept hb6
      replace pr := pr.kept hb6
      replace vP := vP.kept hb6
      replace vD := vD.kept hb6
      replace AL := AL.kept hb6
      replace AM := AM.kept hb6
      clear hb6
      obtain ⟨aa, ca, ab, cb, rfl, oa, ob, hap⟩ := hpt
      rw [nx, ny] at hap ⊢
      rw [nx] at oa
      rw [ny] at ob
      have ia := In.of oa
      have ib := In.of ob
      have HB : Hid _ := setRow_below fr (w.heap.size + 2) ([.slice aa 16 ca, .slice ab 16 cb]).toArray (by omega)
      have h2 := pr.row ([.slice aa 16 ca, .slice ab 16 cb])
      have oa2 := own_rowM oa ia (.inl hl) ([.slice aa 16 ca, .slice ab 16 cb]).toArray
      have ob2 := own_rowM ob ib (.inl hl) ([.slice aa 16 ca, .slice ab 16 cb]).toArray
      go_wp2_with (refine wpList_store_row rfl 27 _ _ rfl (w.heap.size + 2) ([Value.slice aa 16 ca,  Value.slice ab 16 cb]).toArray rfl rfl 27 _ pr infoPt rfl (by simp [Value.oneCell']) ?_)
      exact bodyPost_ret (results_row_tmp (v := .bool true) (cs := [.slice aa 16 ca, .slice ab 16 cb]) rfl rfl rfl h2 Tryd.underlying27 rfl infoPt) rfl ⟨_, rfl, HY.out (by simp) _ _ _ (ptT_16 nx ny (own_base oa2 (by omega)) (own_base ob2 (by omega)) hap), HB.out⟩

end Go.Proofs.YtoblilngppjmhaaDoor
namespace Go.Proofs.YtoblilngppjmhaaDoor
open Go.RowKit
set_option maxRecDepth 100000
set_option maxHeartbeats 4000000
set_option linter.unusedSectionVars false

section
variable [NeZero pN]
theorem okPAdd (a : Option Addr) (c : Nat) (b : Option Addr) (d : Nat) (P : KF × KF) (a' : Option Addr) (c' : Nat) (b' : Option Addr) (d' : Nat) (Q : KF × KF) (w : World) (h : PI w a c b d P) (k : PI w a' c' b' d' Q) (hP : On dK P) (hQ : On dK Q) (hV : Vr w 4 (I64 PL)) (hD : Vr w 2 (I64 DL)) :
    Calls Tryd.prog 15 #[.agg #[.slice a 16 c, .slice b 16 d], .agg #[.slice a' 16 c', .slice b' 16 d']] w fun e w' => ∃ a1 c1 b1 d1, e = .returned (.tuple #[.agg #[.slice a1 16 c1, .slice b1 16 d1], .bool true]) ∧ PI w' a1 c1 b1 d1 (pAdd dK ivK P Q) ∧ Below w.heap.size w w' := by
  refine (implPtAdd a 16 c (cx P.1) b 16 d (cx P.2) a' 16 c' (cx Q.1) b' 16 d' (cx Q.2) w h.x h.y k.x k.y hV hD).mono ?_
  rintro e w1 ⟨v, rfl, hv, hb⟩
  have e1 := okpt hP
  have e2 := okpt hQ
  obtain ⟨m1, m2⟩ := pt_add e1 e2
  rw [pt_back, pt_back] at m1 m2
  rw [e1, e2] at hv ⊢
  obtain ⟨a1, c1, b1, d1, rfl, hp⟩ := PI.of (P := pAdd dK ivK P Q) hv m1 m2
  exact ⟨a1, c1, b1, d1, rfl, hp, hb⟩
end
end Go.Proofs.YtoblilngppjmhaaDoor

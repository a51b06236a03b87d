/-
  What is proved here: the contract of the program's PtTwice; where its variables hold the prime and d.
-/
import Derived.Test.YtoblilngppjmhaaDoorZOho
import Derived.Test.YtoblilngppjmhaaDoorZOf
import Derived.Test.YtoblilngppjmhaaDoorZOe
namespace Go.Proofs.YtoblilngppjmhaaDoor
open Go.RowKit
set_option maxRecDepth 100000

set_option maxHeartbeats 8000000 in
theorem implPtTwice (a1 : Option Addr) (n1 c1 : Nat) (xs1 : List Int) (b1 : Option Addr) (m1 d1 : Nat) (ys1 : List Int) (w : World) (hx1 : Is w a1 n1 c1 xs1) (hy1 : Is w b1 m1 d1 ys1) (hV : Vr w 4 (I64 PL)) (hD : Vr w 2 (I64 DL)) :
    Calls Tryd.prog 20 #[.agg #[.slice a1 n1 c1, .slice b1 m1 d1]] w fun e w' => ∃ v, e = .returned (.tuple #[v, .bool (ptOk xs1 ys1)]) ∧ PtT 70 w w' v (ptx (ptOk xs1 ys1) (add6 (mk6 xs1 ys1) (mk6 xs1 ys1))) (pty (ptOk xs1 ys1) (add6 (mk6 xs1 ys1) (mk6 xs1 ys1))) ∧ Below w.heap.size w w' := by
  obtain ⟨p, hp⟩ : ∃ p, p = ptOk xs1 ys1 := ⟨_, rfl⟩
  obtain ⟨L, hL⟩ : ∃ l, l = opL xs1 ys1 := ⟨_, rfl⟩
  obtain ⟨P, hP⟩ : ∃ P, P = mk6 xs1 ys1 := ⟨_, rfl⟩
  have HO1 : Hid (∀ Z, Below w.heap.size w Z → Vr Z 4 (I64 PL) → Vr Z 2 (I64 DL) → Calls Tryd.prog 55 #[.agg #[.slice a1 n1 c1, .slice b1 m1 d1]] Z fun e w' => e = .returned (.tuple #[.agg (I64 L).toArray, .bool p]) ∧ Below Z.heap.size Z w') := by
    unfold Hid; intro Z hZ h1 h2; rw [hL, hp]; exact implPtOpen a1 n1 c1 xs1 b1 m1 d1 ys1 Z (hx1.below hZ) (hy1.below hZ) h1 h2
  have nL : L.length = 64 := by rw [hL]; exact opL_len _ _
  have iL : (Tryd.prog.info? 72).map (·.size) = some (I64 L).toArray.size := by simpa [nL] using infoLp
  have HLL : Hid (p = true → L = P.cells ∧ P.Ok) := by
    unfold Hid; intro h; rw [hp] at h; obtain ⟨k1, k2, _⟩ := (ptOk_iff _ _).1 h; rw [hL, hP]; unfold opL; rw [if_pos h]; exact ⟨rfl, mk6_ok k1 k2⟩
  obtain ⟨x, hx⟩ : ∃ x, x = flx (add6 (mk6 xs1 ys1) (mk6 xs1 ys1)) := ⟨_, rfl⟩
  obtain ⟨y, hy⟩ : ∃ y, y = fly (add6 (mk6 xs1 ys1) (mk6 xs1 ys1)) := ⟨_, rfl⟩
  have nx : x.length = 16 := by rw [hx]; exact red_len _
  have ny : y.length = 16 := by rw [hy]; exact red_len _
  obtain ⟨Lx, hLx⟩ : ∃ l, l = ptx (ptOk xs1 ys1) (add6 (mk6 xs1 ys1) (mk6 xs1 ys1)) := ⟨_, rfl⟩
  obtain ⟨Ly, hLy⟩ : ∃ l, l = pty (ptOk xs1 ys1) (add6 (mk6 xs1 ys1) (mk6 xs1 ys1)) := ⟨_, rfl⟩
  have HN : Hid ((p) = false → ∀ {w' : World}, PtT 70 w w' (.agg #[.slice none 0 0, .slice none 0 0]) Lx Ly) := by
    unfold Hid; intro h w'; rw [hp] at h; rw [hLx, hLy, h]; exact ptT_nil _ _ _
  have HY : Hid ((p) = true → ∀ (V V' : World) (v : Value), PtT 70 V V' v x y → PtT 70 V V' v Lx Ly) := by
    unfold Hid; intro h V V' v k; rw [hp] at h; rw [hLx, hLy, h]; unfold ptx pty; rw [if_pos rfl, if_pos rfl, ← hx, ← hy]; exact k
  obtain ⟨R, hR⟩ : ∃ R, R = dbl6 P := ⟨_, rfl⟩
  have HX : Hid (p = true → x = flx R ∧ y = fly R) := by
    unfold Hid; intro h; rw [hp] at h; rw [hx, hy, hR, hP]; exact ⟨(twice_lists h).1.symm, (twice_lists h).2.symm⟩
  have HD2 : Hid (p = true → ∀ Z, Vr Z 4 (I64 PL) → Calls Tryd.prog 63 #[.agg (I64 P.cells).toArray] Z fun e w' => e = .returned (.iface 72 (.agg (I64 R.cells).toArray)) ∧ Below Z.heap.size Z w') := by
    unfold Hid; intro h Z hZ; rw [hR]; exact implDoubled P Z (HLL.out h).2 hZ
  have HC : Hid (p = true → ∀ Z, Vr Z 4 (I64 PL) → Calls Tryd.prog 56 #[.iface 72 (.agg (I64 R.cells).toArray)] Z fun e w' => ∃ v, e = .returned v ∧ PtT 70 Z w' v x y ∧ Below Z.heap.size Z w') := by
    unfold Hid; intro h Z hZ; have hRo : R.Ok := by rw [hR]; exact long6_ok _ _ _ _
    rw [(HX.out h).1, (HX.out h).2]; exact implClosed R Z hRo hZ
  rw [← hLx, ← hLy, ← hp]
  obtain ⟨W, hW⟩ : ∃ W, W = (w.alloc (.cells #[.slice a1 n1 c1, .slice b1 m1 d1] 27)).alloc (.cells #[.slice none 0 0, .slice none 0 0] 27) := ⟨_, rfl⟩
  have fr : Below w.heap.size w W := by rw [hW]; exact (((Below.refl _ _).alloc (Nat.le_refl _) _).alloc (by simp) _)
  have pa1 : Arr W w.heap.size 27 ([.slice a1 n1 c1, .slice b1 m1 d1]) := by
    rw [hW]
    have := (Arr.new (w) ([.slice a1 n1 c1, .slice b1 m1 d1]) 27).alloc (.cells #[.slice none 0 0, .slice none 0 0] 27)
    exact this
  have pr : Arr W (w.heap.size + 1) 27 ([.slice none 0 0, .slice none 0 0]) := by
    rw [hW]
    have := Arr.new (w.alloc (.cells #[.slice a1 n1 c1, .slice b1 m1 d1] 27)) ([.slice none 0 0, .slice none 0 0]) 27
    rw [World.size_alloc] at this
    exact this
  have h0P := hV.lt
  have vP := hV.kept fr
  have h0D := hD.lt
  have vD := hD.kept fr
  clear hV hD
  clear hx hy hLx hLy hp hL hP hx1 hy1 hR HX
  go_enter Tryd.func20, Tryd.ntmps20
  go_upto_region 1 with fail
  rw [← hW]
  clear hW
  go_wp2_with (refine wpList_load_row rfl 27 _ rfl w.heap.size rfl 27 ([Value.slice a1 n1 c1,  Value.slice b1 m1 d1]).toArray (0, 0) _ pa1 Tryd.underlying27 rfl infoPt ?_)
  refine (HO1.out _ fr vP vD).mono ?_
  rintro e y1 ⟨rfl, hb1⟩
  replace fr := fr.trans (hb1.mono fr.size)
  replace pa1 := pa1.kept hb1
  replace pr := pr.kept hb1
  replace vP := vP.kept hb1
  replace vD := vD.kept hb1
  clear hb1
  have hXL : w.heap.size < y1.heap.size ∧ (w.heap.size + 1) < y1.heap.size ∧ w.heap.size ≤ y1.heap.size := ⟨pa1.lt, pr.lt, fr.size⟩
  obtain ⟨bV, AL, q1⟩ := laid_lp y1 L
  replace fr := fr.trans (bV.mono fr.size)
  replace pa1 := pa1.kept bV
  replace pr := pr.kept bV
  replace vP := vP.kept bV
  replace vD := vD.kept bV
  go_upto_region 2 with (refine wpList_store_row rfl 72 _ _ rfl y1.heap.size (I64 L).toArray rfl rfl 72 _ q1 iL (by simp [nL]) (by simp [Value.oneCell']) ?_)
  obtain ⟨V2, hVV⟩ : ∃ V, V = (y1.alloc (.cells #[.int .i64 0, .int .i64 0, .int .i64 0, .int .i64 0, .int .i64 0, .int .i64 0, .int .i64 0, .int .i64 0, .int .i64 0, .int .i64 0, .int .i64 0, .int .i64 0, .int .i64 0, .int .i64 0, .int .i64 0, .int .i64 0, .int .i64 0, .int .i64 0, .int .i64 0, .int .i64 0, .int .i64 0, .int .i64 0, .int .i64 0, .int .i64 0, .int .i64 0, .int .i64 0, .int .i64 0, .int .i64 0, .int .i64 0, .int .i64 0, .int .i64 0, .int .i64 0, .int .i64 0, .int .i64 0, .int .i64 0, .int .i64 0, .int .i64 0, .int .i64 0, .int .i64 0, .int .i64 0, .int .i64 0, .int .i64 0, .int .i64 0, .int .i64 0, .int .i64 0, .int .i64 0, .int .i64 0, .int .i64 0, .int .i64 0, .int .i64 0, .int .i64 0, .int .i64 0, .int .i64 0, .int .i64 0, .int .i64 0, .int .i64 0, .int .i64 0, .int .i64 0, .int .i64 0, .int .i64 0, .int .i64 0, .int .i64 0, .int .i64 0, .int .i64 0] 72)).setRow y1.heap.size (I64 L).toArray := ⟨_, rfl⟩
  obtain ⟨XL, hE⟩ : ∃ E, E = y1.heap.size := ⟨_, rfl⟩
  rw [← hVV] at fr pa1 pr vP vD AL ⊢
  rw [← hE] at AL hXL ⊢
  clear hVV hE q1 bV
  cases p with
  | false =>
    have h2 := pr.row ([.slice none 0 0, .slice none 0 0])
    have HB : Hid _ := setRow_below fr (w.heap.size + 1) ([.slice none 0 0, .slice none 0 0]).toArray (by omega)
    go_wp2_with (refine wpList_store_row rfl 27 _ _ rfl (w.heap.size + 1) ([Value.slice none 0 0,  Value.slice none 0 0]).toArray rfl rfl 27 _ pr infoPt rfl (by simp [Value.oneCell']) ?_)
    exact bodyPost_ret (results_row_tmp (v := .bool false) (cs := [.slice none 0 0, .slice none 0 0]) rfl rfl rfl h2 Tryd.underlying27 rfl infoPt) rfl ⟨_, rfl, HN.out (by simp), HB.out⟩
  | true =>
    obtain ⟨eL, hPo⟩ := HLL.out (by simp)
    subst eL
    have hip := infoLp' hPo
    go_wp2_with (refine wpList_load_row rfl 72 _ rfl XL rfl 72 (I64 P.cells).toArray (0, 0) _ AL Tryd.underlying72 rfl hip ?_)
    refine (HD2.out (by simp) _ vP).mono ?_
    rintro e y3 ⟨rfl, hb3⟩
    replace fr := fr.trans (hb3.mono fr.size)
    replace pa1 := pa1.kept hb3
    replace pr := pr.kept hb3
    replace vP := vP.kept hb3
    replace vD := vD.kept hb3
    replace AL := AL.kept hb3
    clear hb3
    go_wp2_with fail
    have hl : w.heap.size + 1 < y3.heap.size := pr.lt
    refine (HC.out (by simp) _ vP).mono ?_
    rintro e y4 ⟨v, rfl, hpt, hb4⟩
    replace fr := fr.trans (hb4.mono fr.size)
    replace pa1 := pa1.kept hb4
    replace pr := pr.kept hb4
    replace vP := vP.kept hb4
    replace vD := vD.kept hb4
    replace AL := AL.kept hb4
    clear hb4
    obtain ⟨aa, ca, ab, cb, rfl, oa, ob, hap⟩ := hpt
    rw [nx, ny] at hap ⊢
    rw [nx] at oa
    rw [ny] at ob
    have ia := In.of oa
    have ib := In.of ob
    have HB : Hid _ := setRow_below fr (w.heap.size + 1) ([.slice aa 16 ca, .slice ab 16 cb]).toArray (by omega)
    have h2 := pr.row ([.slice aa 16 ca, .slice ab 16 cb])
    have oa2 := own_rowM oa ia (.inl hl) ([.slice aa 16 ca, .slice ab 16 cb]).toArray
    have ob2 := own_rowM ob ib (.inl hl) ([.slice aa 16 ca, .slice ab 16 cb]).toArray
    go_wp2_with (refine wpList_store_row rfl 27 _ _ rfl (w.heap.size + 1) ([Value.slice aa 16 ca,  Value.slice ab 16 cb]).toArray rfl rfl 27 _ pr infoPt rfl (by simp [Value.oneCell']) ?_)
    exact bodyPost_ret (results_row_tmp (v := .bool true) (cs := [.slice aa 16 ca, .slice ab 16 cb]) rfl rfl rfl h2 Tryd.underlying27 rfl infoPt) rfl ⟨_, rfl, HY.out (by simp) _ _ _ (ptT_16 nx ny (own_base oa2 (by omega)) (own_base ob2 (by omega)) hap), HB.out⟩

end Go.Proofs.YtoblilngppjmhaaDoor

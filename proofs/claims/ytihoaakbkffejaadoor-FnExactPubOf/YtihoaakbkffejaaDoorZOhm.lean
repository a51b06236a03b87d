/-
  What is proved here: the contract of the program's PtMul; where its variables hold the prime, d and the order; a multiplier is laid into a new cell; plain facts on memory.
-/
import Derived.Test.YtihoaakbkffejaaDoorZXp0
import Derived.Test.YtihoaakbkffejaaDoorZOe
import Derived.Test.YtihoaakbkffejaaDoorZQa
namespace Go.Proofs.YtihoaakbkffejaaDoor
open Go.RowKit
set_option maxRecDepth 100000

theorem qO_253 : qO < 2 ^ 253 := by decide
theorem sc_253 {ks : List Int} (h : scOk ks = true) : (val ks).toNat < 2 ^ 253 := by
 obtain ⟨_, h2, h3⟩ := (scOk_iff ks).1 h
 have h1 := val_nonneg (fun x hx => (h2 x hx).1)
 have h4 := qO_253
 have h5 : ((2 ^ 253 : Nat) : Int) = 2 ^ 253 := by norm_cast
 have : ((val ks).toNat : Int) < ((2 ^ 253 : Nat) : Int) := by rw [Int.toNat_of_nonneg h1, h5]; omega
 exact Int.ofNat_lt.1 this
theorem sc_laid_mu (w1 : World) (L : List Int) : Below w1.heap.size w1 ((w1.alloc (.cells #[.int .i64 0, .int .i64 0, .int .i64 0, .int .i64 0, .int .i64 0, .int .i64 0, .int .i64 0, .int .i64 0, .int .i64 0, .int .i64 0, .int .i64 0, .int .i64 0, .int .i64 0, .int .i64 0, .int .i64 0, .int .i64 0] 85)).setRow w1.heap.size (I64 L).toArray) ∧ Arr ((w1.alloc (.cells #[.int .i64 0, .int .i64 0, .int .i64 0, .int .i64 0, .int .i64 0, .int .i64 0, .int .i64 0, .int .i64 0, .int .i64 0, .int .i64 0, .int .i64 0, .int .i64 0, .int .i64 0, .int .i64 0, .int .i64 0, .int .i64 0] 85)).setRow w1.heap.size (I64 L).toArray) w1.heap.size 85 (I64 L) ∧ Arr (w1.alloc (.cells #[.int .i64 0, .int .i64 0, .int .i64 0, .int .i64 0, .int .i64 0, .int .i64 0, .int .i64 0, .int .i64 0, .int .i64 0, .int .i64 0, .int .i64 0, .int .i64 0, .int .i64 0, .int .i64 0, .int .i64 0, .int .i64 0] 85)) w1.heap.size 85 (I64 Z16) := by
 have q : Arr (w1.alloc (.cells #[.int .i64 0, .int .i64 0, .int .i64 0, .int .i64 0, .int .i64 0, .int .i64 0, .int .i64 0, .int .i64 0, .int .i64 0, .int .i64 0, .int .i64 0, .int .i64 0, .int .i64 0, .int .i64 0, .int .i64 0, .int .i64 0] 85)) w1.heap.size 85 (I64 Z16) := Arr.new w1 (I64 Z16) _
 exact ⟨setRow_below ((Below.refl _ _).alloc (Nat.le_refl _) _) _ _ (Nat.le_refl _), q.row _, q⟩

set_option maxHeartbeats 8000000 in
theorem implPtMul (a1 : Option Addr) (n1 c1 : Nat) (xs1 : List Int) (b1 : Option Addr) (m1 d1 : Nat) (ys1 : List Int) (ak : Option Addr) (nk ck : Nat) (ks : List Int) (w : World) (hx1 : Is w a1 n1 c1 xs1) (hy1 : Is w b1 m1 d1 ys1) (hk : Is w ak nk ck ks) (hV : Vr w 6 (I64 PL)) (hD : Vr w 7 (I64 DL)) (hO : Vr w 5 (I64 OL)) :
  Calls Tryd.prog 29 #[.agg #[.slice a1 n1 c1, .slice b1 m1 d1], .agg #[.slice ak nk ck]] w fun e w' => ∃ v, e = .returned (.tuple #[v, .bool (ptOk xs1 ys1 && scOk ks)]) ∧ PtT 81 w w' v (ptx (ptOk xs1 ys1 && scOk ks) (mul6 (mk6 xs1 ys1) (val ks).toNat)) (pty (ptOk xs1 ys1 && scOk ks) (mul6 (mk6 xs1 ys1) (val ks).toNat)) ∧ Below w.heap.size w w' := by
 obtain ⟨p, hp⟩ : ∃ p, p = ptOk xs1 ys1 := ⟨_, rfl⟩
 obtain ⟨L, hL⟩ : ∃ l, l = opL xs1 ys1 := ⟨_, rfl⟩
 obtain ⟨P, hP⟩ : ∃ P, P = mk6 xs1 ys1 := ⟨_, rfl⟩
 have HO1 : Hid (∀ Z, Below w.heap.size w Z → Vr Z 6 (I64 PL) → Vr Z 7 (I64 DL) → Calls Tryd.prog 49 #[.agg #[.slice a1 n1 c1, .slice b1 m1 d1]] Z fun e w' => e = .returned (.tuple #[.agg (I64 L).toArray, .bool p]) ∧ Below Z.heap.size Z w') := by
  unfold Hid; intro Z hZ h1 h2; rw [hL, hp]; exact implPtOpen a1 n1 c1 xs1 b1 m1 d1 ys1 Z (hx1.below hZ) (hy1.below hZ) h1 h2
 have nL : L.length = 64 := by rw [hL]; exact opL_len _ _
 have iL : (Tryd.prog.info? 92).map (·.size) = some (I64 L).toArray.size := by simpa [nL] using infoLp
 have HLL : Hid (p = true → L = P.cells ∧ P.Ok) := by
  unfold Hid; intro h; rw [hp] at h; obtain ⟨k1, k2, _⟩ := (ptOk_iff _ _).1 h; rw [hL, hP]; unfold opL; rw [if_pos h]; exact ⟨rfl, mk6_ok k1 k2⟩
 obtain ⟨q, hq⟩ : ∃ q, q = scOk ks := ⟨_, rfl⟩
 obtain ⟨Kk, hK⟩ : ∃ l, l = scL ks := ⟨_, rfl⟩
 have HLO : Hid (∀ Z, Below w.heap.size w Z → Calls Tryd.prog 51 #[.slice ak nk ck] Z fun e w' => e = .returned (.tuple #[.agg (I64 (lmL ks)).toArray, .bool (lmOk ks)]) ∧ Below Z.heap.size Z w') := by
  unfold Hid; intro Z hZ; exact implLimbsOf ak nk ck ks Z (hk.below hZ)
 have HMU : Hid (∀ Z, Vr Z 5 (I64 OL) → Calls Tryd.prog 50 #[.agg (I64 (lmL ks)).toArray, .bool (lmOk ks)] Z fun e w' => e = .returned (.tuple #[.agg (I64 Kk).toArray, .bool q]) ∧ Below Z.heap.size Z w') := by
  unfold Hid; intro Z hZ; rw [hK, hq]; exact implMuSc ks Z hZ
 have nK : Kk.length = 16 := by rw [hK]; exact scL_len ks
 have iK : (Tryd.prog.info? 85).map (·.size) = some (I64 Kk).toArray.size := by simpa [nK] using infoM
 have iiK : (Tryd.prog.info? 85).map (·.size) = some (I64 Kk).length := by simpa [nK] using infoM
 have HK : Hid (q = true → Kk = ks ∧ Lm ks) := by
  unfold Hid; intro h; rw [hq] at h; rw [hK]; unfold scL; rw [if_pos h]; exact ⟨rfl, ((scOk_iff ks).1 h).2.1⟩
 obtain ⟨x, hx⟩ : ∃ x, x = flx (mul6 (mk6 xs1 ys1) (val ks).toNat) := ⟨_, rfl⟩
 obtain ⟨y, hy⟩ : ∃ y, y = fly (mul6 (mk6 xs1 ys1) (val ks).toNat) := ⟨_, rfl⟩
 have nx : x.length = 16 := by rw [hx]; exact red_len _
 have ny : y.length = 16 := by rw [hy]; exact red_len _
 obtain ⟨Lx, hLx⟩ : ∃ l, l = ptx (ptOk xs1 ys1 && scOk ks) (mul6 (mk6 xs1 ys1) (val ks).toNat) := ⟨_, rfl⟩
 obtain ⟨Ly, hLy⟩ : ∃ l, l = pty (ptOk xs1 ys1 && scOk ks) (mul6 (mk6 xs1 ys1) (val ks).toNat) := ⟨_, rfl⟩
 have HN : Hid ((p && q) = false → ∀ {w' : World}, PtT 81 w w' (.agg #[.slice none 0 0, .slice none 0 0]) Lx Ly) := by
  unfold Hid; intro h w'; rw [hp, hq] at h; rw [hLx, hLy, h]; exact ptT_nil _ _ _
 have HY : Hid ((p && q) = true → ∀ (V V' : World) (v : Value), PtT 81 V V' v x y → PtT 81 V V' v Lx Ly) := by
  unfold Hid; intro h V V' v k; rw [hp, hq] at h; rw [hLx, hLy, h]; unfold ptx pty; rw [if_pos rfl, if_pos rfl, ← hx, ← hy]; exact k
 obtain ⟨R, hR⟩ : ∃ R, R = jul6 P (val ks).toNat := ⟨_, rfl⟩
 have hRo : R.Ok := by rw [hR]; exact jst_ok _ _ _
 have HX : Hid (p = true → q = true → x = flx R ∧ y = fly R) := by
  unfold Hid; intro h k; rw [hp] at h; rw [hq] at k; rw [hx, hy, hR, hP]; exact ⟨(mul_lists h _ (sc_253 k)).1.symm, (mul_lists h _ (sc_253 k)).2.symm⟩
 obtain ⟨O, hOe⟩ : ∃ P, P = mk6 (lim 16 0) (lim 16 1) := ⟨_, rfl⟩
 have hOo : O.Ok := by rw [hOe]; exact mk6_ok zero_ok one_ok
 have HZ : Hid (∀ Z, Vr Z 6 (I64 PL) → Calls Tryd.prog 54 #[.agg #[.int .i64 0, .int .i64 0, .int .i64 0, .int .i64 0, .int .i64 0, .int .i64 0, .int .i64 0, .int .i64 0, .int .i64 0, .int .i64 0, .int .i64 0, .int .i64 0, .int .i64 0, .int .i64 0, .int .i64 0, .int .i64 0], .agg #[.int .i64 1, .int .i64 0, .int .i64 0, .int .i64 0, .int .i64 0, .int .i64 0, .int .i64 0, .int .i64 0, .int .i64 0, .int .i64 0, .int .i64 0, .int .i64 0, .int .i64 0, .int .i64 0, .int .i64 0, .int .i64 0]] Z fun e w' => e = .returned (.agg (I64 O.cells).toArray) ∧ Below Z.heap.size Z w') := by
  unfold Hid; intro Z hZ; have := implLongAt (lim 16 0) (lim 16 1) Z zero_ok one_ok hZ; rw [← hOe, zero_lim, one_lim] at this; exact this
 have HS : Hid (p = true → q = true → ∀ Z, Vr Z 6 (I64 PL) → Vr Z 7 (I64 DL) → Calls Tryd.prog 53 #[.iface 92 (.agg (I64 O.cells).toArray), .iface 92 (.agg (I64 P.cells).toArray), .agg (I64 Kk).toArray] Z fun e w' => e = .returned (.iface 92 (.agg (I64 R.cells).toArray)) ∧ Below Z.heap.size Z w') := by
  unfold Hid; intro h k Z hZ hZ2; obtain ⟨e1, e2⟩ := HK.out k; rw [hR, hOe, e1]; exact implMany P ks Z (HLL.out h).2 (by rw [← e1]; exact nK) e2 hZ hZ2
 have HC : Hid (p = true → q = true → ∀ Z, Vr Z 6 (I64 PL) → Calls Tryd.prog 52 #[.iface 92 (.agg (I64 R.cells).toArray)] Z fun e w' => ∃ v, e = .returned v ∧ PtT 81 Z w' v x y ∧ Below Z.heap.size Z w') := by
  unfold Hid; intro h k Z hZ
  rw [(HX.out h k).1, (HX.out h k).2]; exact implClosed R Z hRo hZ
 rw [← hLx, ← hLy, ← hp, ← hq]
 obtain ⟨lk, hlk⟩ : ∃ l, l = lmL ks := ⟨_, rfl⟩
 obtain ⟨bk, hbk⟩ : ∃ l, l = lmOk ks := ⟨_, rfl⟩
 rw [← hlk, ← hbk] at HLO HMU
 obtain ⟨W, hW⟩ : ∃ W, W = ((w.alloc (.cells #[.slice a1 n1 c1, .slice b1 m1 d1] 60)).alloc (.cells #[.slice ak nk ck] 39)).alloc (.cells #[.slice none 0 0, .slice none 0 0] 60) := ⟨_, rfl⟩
 have fr : Below w.heap.size w W := by rw [hW]; exact ((((Below.refl _ _).alloc (Nat.le_refl _) _).alloc (by simp) _).alloc (by simp; omega) _)
 have pa1 : Arr W w.heap.size 60 ([.slice a1 n1 c1, .slice b1 m1 d1]) := by
  rw [hW]
  have := ((Arr.new (w) ([.slice a1 n1 c1, .slice b1 m1 d1]) 60).alloc (.cells #[.slice ak nk ck] 39)).alloc (.cells #[.slice none 0 0, .slice none 0 0] 60)
  exact this
 have pak : Arr W (w.heap.size + 1) 39 ([.slice ak nk ck]) := by
  rw [hW]
  have := (Arr.new (w.alloc (.cells #[.slice a1 n1 c1, .slice b1 m1 d1] 60)) ([.slice ak nk ck]) 39).alloc (.cells #[.slice none 0 0, .slice none 0 0] 60)
  rw [World.size_alloc] at this
  exact this
 have pr : Arr W (w.heap.size + 2) 60 ([.slice none 0 0, .slice none 0 0]) := by
  rw [hW]
  have := Arr.new ((w.alloc (.cells #[.slice a1 n1 c1, .slice b1 m1 d1] 60)).alloc (.cells #[.slice ak nk ck] 39)) ([.slice none 0 0, .slice none 0 0]) 60
  rw [World.size_alloc, World.size_alloc] at this
  exact this
 have h0P := hV.lt
 have vP := hV.kept fr
 have h0D := hD.lt
 have vD := hD.kept fr
 have h0O := hO.lt
 have vO := hO.kept fr
 clear hV hD hO
 clear hx hy hLx hLy hR HX HK hp hq hL hP hK hOe hlk hbk hx1 hy1 hk
 go_enter Tryd.func29, Tryd.ntmps29
 go_upto_region 1 with fail
 rw [← hW]
 clear hW
 go_wp2_with (refine wpList_load_row rfl 60 _ rfl w.heap.size rfl 60 ([Value.slice a1 n1 c1,  Value.slice b1 m1 d1]).toArray (0, 0) _ pa1 Tryd.underlying60 rfl infoPt ?_)
 refine (HO1.out _ fr vP vD).mono ?_
 rintro e y1 ⟨rfl, hb1⟩
 replace fr := fr.trans (hb1.mono fr.size)
 replace pa1 := pa1.kept hb1
 replace pak := pak.kept hb1
 replace pr := pr.kept hb1
 replace vP := vP.kept hb1
 replace vD := vD.kept hb1
 replace vO := vO.kept hb1
 clear hb1
 have hXL : w.heap.size < y1.heap.size ∧ (w.heap.size + 1) < y1.heap.size ∧ (w.heap.size + 2) < y1.heap.size ∧ w.heap.size ≤ y1.heap.size := ⟨pa1.lt, pak.lt, pr.lt, fr.size⟩
 obtain ⟨bV, AL, q1⟩ := laid_lp y1 L
 replace fr := fr.trans (bV.mono fr.size)
 replace pa1 := pa1.kept bV
 replace pak := pak.kept bV
 replace pr := pr.kept bV
 replace vP := vP.kept bV
 replace vD := vD.kept bV
 replace vO := vO.kept bV
 go_upto_region 2 with (refine wpList_store_row rfl 92 _ _ rfl y1.heap.size (I64 L).toArray rfl rfl 92 _ q1 iL (by simp [nL]) (by simp [Value.oneCell']) ?_)
 obtain ⟨V2, hVV⟩ : ∃ V, V = (y1.alloc (.cells #[.int .i64 0, .int .i64 0, .int .i64 0, .int .i64 0, .int .i64 0, .int .i64 0, .int .i64 0, .int .i64 0, .int .i64 0, .int .i64 0, .int .i64 0, .int .i64 0, .int .i64 0, .int .i64 0, .int .i64 0, .int .i64 0, .int .i64 0, .int .i64 0, .int .i64 0, .int .i64 0, .int .i64 0, .int .i64 0, .int .i64 0, .int .i64 0, .int .i64 0, .int .i64 0, .int .i64 0, .int .i64 0, .int .i64 0, .int .i64 0, .int .i64 0, .int .i64 0, .int .i64 0, .int .i64 0, .int .i64 0, .int .i64 0, .int .i64 0, .int .i64 0, .int .i64 0, .int .i64 0, .int .i64 0, .int .i64 0, .int .i64 0, .int .i64 0, .int .i64 0, .int .i64 0, .int .i64 0, .int .i64 0, .int .i64 0, .int .i64 0, .int .i64 0, .int .i64 0, .int .i64 0, .int .i64 0, .int .i64 0, .int .i64 0, .int .i64 0, .int .i64 0, .int .i64 0, .int .i64 0, .int .i64 0, .int .i64 0, .int .i64 0, .int .i64 0] 92)).setRow y1.heap.size (I64 L).toArray := ⟨_, rfl⟩
 obtain ⟨XL, hE⟩ : ∃ E, E = y1.heap.size := ⟨_, rfl⟩
 rw [← hVV] at fr pa1 pak pr vP vD vO AL ⊢
 rw [← hE] at AL hXL ⊢
 clear hVV hE q1 bV
 have c0 : V2.cell? ⟨w.heap.size + 1, 0, none⟩ = some (.slice ak nk ck) := pak.cell 0
 go_wp2_with fail
 clear c0
 refine (HLO.out _ fr).mono ?_
 rintro e y3 ⟨rfl, hb3⟩
 replace fr := fr.trans (hb3.mono fr.size)
 replace pa1 := pa1.kept hb3
 replace pak := pak.kept hb3
 replace pr := pr.kept hb3
 replace vP := vP.kept hb3
 replace vD := vD.kept hb3
 replace vO := vO.kept hb3
 replace AL := AL.kept hb3
 clear hb3
 go_wp2_with fail
 refine (HMU.out _ vO).mono ?_
 rintro e y4 ⟨rfl, hb4⟩
 replace fr := fr.trans (hb4.mono fr.size)
 replace pa1 := pa1.kept hb4
 replace pak := pak.kept hb4
 replace pr := pr.kept hb4
 replace vP := vP.kept hb4
 replace vD := vD.kept hb4
 replace vO := vO.kept hb4
 replace AL := AL.kept hb4
 clear hb4
 have hXK : w.heap.size < y4.heap.size ∧ (w.heap.size + 1) < y4.heap.size ∧ (w.heap.size + 2) < y4.heap.size ∧ XL < y4.heap.size ∧ w.heap.size ≤ y4.heap.size := ⟨pa1.lt, pak.lt, pr.lt, AL.lt, fr.size⟩
 obtain ⟨bV, AK, q1⟩ := sc_laid_mu y4 Kk
 replace fr := fr.trans (bV.mono fr.size)
 replace pa1 := pa1.kept bV
 replace pak := pak.kept bV
 replace pr := pr.kept bV
 replace vP := vP.kept bV
 replace vD := vD.kept bV
 replace vO := vO.kept bV
 replace AL := AL.kept bV
 go_upto_region 3 with (refine wpList_store_row rfl 85 _ _ rfl y4.heap.size (I64 Kk).toArray rfl rfl 85 _ q1 iK (by simp [nK]) (by simp [Value.oneCell']) ?_)
 obtain ⟨V5, hVV⟩ : ∃ V, V = (y4.alloc (.cells #[.int .i64 0, .int .i64 0, .int .i64 0, .int .i64 0, .int .i64 0, .int .i64 0, .int .i64 0, .int .i64 0, .int .i64 0, .int .i64 0, .int .i64 0, .int .i64 0, .int .i64 0, .int .i64 0, .int .i64 0, .int .i64 0] 85)).setRow y4.heap.size (I64 Kk).toArray := ⟨_, rfl⟩
 obtain ⟨XK, hE⟩ : ∃ E, E = y4.heap.size := ⟨_, rfl⟩
 rw [← hVV] at fr pa1 pak pr vP vD vO AL AK ⊢
 rw [← hE] at AK hXK ⊢
 clear hVV hE q1 bV
 cases p with
 | false =>
  have h2 := pr.row ([.slice none 0 0, .slice none 0 0])
  have HB : Hid _ := setRow_below fr (w.heap.size + 2) ([.slice none 0 0, .slice none 0 0]).toArray (by omega)
  go_wp2_with (refine wpList_store_row rfl 60 _ _ rfl (w.heap.size + 2) ([Value.slice none 0 0,  Value.slice none 0 0]).toArray rfl rfl 60 _ pr infoPt rfl (by simp [Value.oneCell']) ?_)
  exact bodyPost_ret (results_row_tmp (v := .bool false) (cs := [.slice none 0 0, .slice none 0 0]) rfl rfl rfl h2 Tryd.underlying60 rfl infoPt) rfl ⟨_, rfl, HN.out (by simp), HB.out⟩
 | true =>
  cases q with
  | false =>
   have h2 := pr.row ([.slice none 0 0, .slice none 0 0])
   have HB : Hid _ := setRow_below fr (w.heap.size + 2) ([.slice none 0 0, .slice none 0 0]).toArray (by omega)
   go_wp2_with (refine wpList_store_row rfl 60 _ _ rfl (w.heap.size + 2) ([Value.slice none 0 0,  Value.slice none 0 0]).toArray rfl rfl 60 _ pr infoPt rfl (by simp [Value.oneCell']) ?_)
   exact bodyPost_ret (results_row_tmp (v := .bool false) (cs := [.slice none 0 0, .slice none 0 0]) rfl rfl rfl h2 Tryd.underlying60 rfl infoPt) rfl ⟨_, rfl, HN.out (by simp), HB.out⟩
  | true =>
   obtain ⟨eL, hPo⟩ := HLL.out (by simp)
   subst eL
   have hip := infoLpl hPo
   have huP : Tryd.prog.underlying 92 = some _ := Tryd.underlying92
   have huK : Tryd.prog.underlying 85 = some _ := Tryd.underlying85
   go_upto_region 5 with fail
   try simp only [Act.put]
   have bD : Below V5.heap.size V5 V5.drew := (Below.refl _ _).drew
   replace fr := fr.trans (bD.mono fr.size)
   replace pa1 := pa1.kept bD
   replace pak := pak.kept bD
   replace pr := pr.kept bD
   replace vP := vP.kept bD
   replace vD := vD.kept bD
   replace vO := vO.kept bD
   replace AL := AL.kept bD
   replace AK := AK.kept bD
   clear bD
   refine wp_region_held_drew (S := fun W => W.rangeAt XL 0 (I64 P.cells) ∧ W.rangeAt XK 0 (I64 Kk)) (by kernel_rfl) ⟨arr_range AL, arr_range AK⟩ (fun hHeld => ?_)
   obtain ⟨D6, hD⟩ : ∃ V, V = V5.drew := ⟨_, rfl⟩
   rw [← hD] at hHeld fr pa1 pak pr vP vD vO AL AK ⊢
   clear hD
   refine wpAnyH_take (i := 0) (oi := { dst := some 31, op := Op.build 81 #[], type := 81, pos := "l06_point.go:81", after := #[], guard := none }) (v := .agg #[.int .i64 0, .int .i64 0, .int .i64 0, .int .i64 0, .int .i64 0, .int .i64 0, .int .i64 0, .int .i64 0, .int .i64 0, .int .i64 0, .int .i64 0, .int .i64 0, .int .i64 0, .int .i64 0, .int .i64 0, .int .i64 0]) rfl (by kernel_rfl) (by kernel_rfl) (by kernel_rfl) (fun _ _ _ h => h) (.inl ⟨by rfl, fun _ _ => by kernel_rfl⟩) (by assumption) ?_
   simp only [Act.put, List.setIfInBounds_toArray, List.set_cons_zero, List.set_cons_succ]
   refine wpAnyH_take (i := 1) (oi := { dst := some 32, op := Op.build 81 #[(0, Operand.const (Value.int IntKind.i64 1))], type := 81, pos := "l06_point.go:81", after := #[], guard := none }) (v := .agg #[.int .i64 1, .int .i64 0, .int .i64 0, .int .i64 0, .int .i64 0, .int .i64 0, .int .i64 0, .int .i64 0, .int .i64 0, .int .i64 0, .int .i64 0, .int .i64 0, .int .i64 0, .int .i64 0, .int .i64 0, .int .i64 0]) rfl (by kernel_rfl) (by kernel_rfl) (by kernel_rfl) (fun _ _ _ h => h) (.inl ⟨by rfl, fun _ _ => by kernel_rfl⟩) (by assumption) ?_
   simp only [Act.put, List.setIfInBounds_toArray, List.set_cons_zero, List.set_cons_succ]
   refine wpAnyH_take (i := 4) (oi := { dst := some 35, op := Op.load 92 (Operand.tmp 6), type := 92, pos := "l06_point.go:81", after := #[], guard := none }) (v := _) rfl (by kernel_rfl) (by kernel_rfl) (by kernel_rfl) (fun _ _ _ h => h) (yieldsIf_load_mid (by rfl) _ _ rfl _ _ rfl (I64 P.cells) _ (fun _ h => h.1) huP rfl hip) (by assumption) ?_
   simp only [Act.put, List.setIfInBounds_toArray, List.set_cons_zero, List.set_cons_succ]
   refine wpAnyH_take (i := 5) (oi := { dst := some 36, op := Op.makeInterface 92 (Operand.tmp 35), type := 100, pos := "l06_point.go:81", after := #[{ on := 4, ground := Ground.data }], guard := none }) (v := .iface 92 (.agg (I64 P.cells).toArray)) rfl (by kernel_rfl) (by kernel_rfl) (by kernel_rfl) (fun _ _ _ h => h) (.inl ⟨by rfl, fun _ _ => by rfl⟩) (by assumption) ?_
   simp only [Act.put, List.setIfInBounds_toArray, List.set_cons_zero, List.set_cons_succ]
   refine wpAnyH_take (i := 6) (oi := { dst := some 37, op := Op.load 85 (Operand.tmp 8), type := 85, pos := "l06_point.go:81", after := #[], guard := none }) (v := _) rfl (by kernel_rfl) (by kernel_rfl) (by kernel_rfl) (fun _ _ _ h => h) (yieldsIf_load_mid (by rfl) _ _ rfl _ _ rfl (I64 Kk) _ (fun _ h => h.2) huK rfl iiK) (by assumption) ?_
   simp only [Act.put, List.setIfInBounds_toArray, List.set_cons_zero, List.set_cons_succ]
   refine wpAnyH_ready (rs := [2]) (by kernel_rfl) (by simp) (AllReadyH.cons (o := { dst := some 33, op := Op.call { callee := Callee.value (Operand.func 54), args := #[Operand.tmp 31, Operand.tmp 32], argTypes := #[81, 81] }, type := 92, pos := "l06_point.go:81", after := #[{ on := 0, ground := Ground.data }, { on := 1, ground := Ground.data }], guard := none }) rfl (fun K hK => ?_) AllReadyH.nil)
   go_simp
   refine (HZ.out _ vP).mono ?_
   rintro e y7 ⟨rfl, hb7⟩
   replace fr := fr.trans (hb7.mono fr.size)
   replace pa1 := pa1.kept hb7
   replace pak := pak.kept hb7
   replace pr := pr.kept hb7
   replace vP := vP.kept hb7
   replace vD := vD.kept hb7
   replace vO := vO.kept hb7
   replace AL := AL.kept hb7
   replace AK := AK.kept hb7
   clear hb7
   go_wp2_with fail
   refine hK.out _ _ ⟨arr_range AL, arr_range AK⟩ (fun hHeld => ?_)
   clear hK K
   refine wpAnyH_take (i := 3) (oi := { dst := some 34, op := Op.makeInterface 92 (Operand.tmp 33), type := 100, pos := "l06_point.go:81", after := #[{ on := 2, ground := Ground.data }], guard := none }) (v := .iface 92 (.agg (I64 O.cells).toArray)) rfl (by kernel_rfl) (by kernel_rfl) (by kernel_rfl) (fun _ _ _ h => h) (.inl ⟨by rfl, fun _ _ => by rfl⟩) (by assumption) ?_
   simp only [Act.put, List.setIfInBounds_toArray, List.set_cons_zero, List.set_cons_succ]
   refine wpAnyH_ready (rs := [7]) (by kernel_rfl) (by simp) (AllReadyH.cons (o := { dst := some 38, op := Op.call { callee := Callee.value (Operand.func 53), args := #[Operand.tmp 34, Operand.tmp 36, Operand.tmp 37], argTypes := #[100, 100, 85] }, type := 100, pos := "l06_point.go:81", after := #[{ on := 3, ground := Ground.data }, { on := 5, ground := Ground.data }, { on := 6, ground := Ground.data }, { on := 2, ground := Ground.chain }], guard := none }) rfl (fun K hK => ?_) AllReadyH.nil)
   go_simp
   refine (HS.out (by simp) (by simp) _ vP vD).mono ?_
   rintro e y8 ⟨rfl, hb8⟩
   replace fr := fr.trans (hb8.mono fr.size)
   replace pa1 := pa1.kept hb8
   replace pak := pak.kept hb8
   replace pr := pr.kept hb8
   replace vP := vP.kept hb8
   replace vD := vD.kept hb8
   replace vO := vO.kept hb8
   replace AL := AL.kept hb8
   replace AK := AK.kept hb8
   clear hb8
   go_wp2_with fail
   refine hK.out _ _ ⟨arr_range AL, arr_range AK⟩ (fun hHeld => ?_)
   clear hK K
   refine wpAnyH_ready (rs := [8]) (by kernel_rfl) (by simp) (AllReadyH.cons (o := { dst := some 39, op := Op.call { callee := Callee.value (Operand.func 52), args := #[Operand.tmp 38], argTypes := #[100] }, type := 60, pos := "l06_point.go:81", after := #[{ on := 7, ground := Ground.data }, { on := 7, ground := Ground.chain }], guard := none }) rfl (fun K hK => ?_) AllReadyH.nil)
   go_simp
   have hl : w.heap.size + 2 < y8.heap.size := pr.lt
   refine (HC.out (by simp) (by simp) _ vP).mono ?_
   rintro e y9 ⟨v, rfl, hpt, hb9⟩
   replace fr := fr.trans (hb9.mono fr.size)
   replace pa1 := pa1.kept hb9
   replace pak := pak.kept hb9
   replace pr := pr.kept hb9
   replace vP := vP.kept hb9
   replace vD := vD.kept hb9
   replace vO := vO.kept hb9
   replace AL := AL.kept hb9
   replace AK := AK.kept hb9
   clear hb9
   obtain ⟨aa, ca, ab, cb, rfl, oa, ob, hap⟩ := hpt
   rw [nx, ny] at hap ⊢
   rw [nx] at oa
   rw [ny] at ob
   have ia := In.of oa
   have ib := In.of ob
   go_wp2_with fail
   refine hK.out _ _ ⟨arr_range AL, arr_range AK⟩ (fun hHeld => ?_)
   clear hK K
   refine wpAnyH_ready (rs := [9]) (by kernel_rfl) (by simp) (AllReadyH.cons (o := { dst := none, op := Op.store 60 (Operand.tmp 4) (Operand.tmp 39), type := 0, pos := "l06_point.go:81", after := #[{ on := 8, ground := Ground.data }, { on := 8, ground := Ground.chain }, { on := 0, ground := Ground.phase }, { on := 1, ground := Ground.phase }, { on := 2, ground := Ground.phase }, { on := 3, ground := Ground.phase }, { on := 4, ground := Ground.phase }, { on := 5, ground := Ground.phase }, { on := 6, ground := Ground.phase }, { on := 7, ground := Ground.phase }, { on := 8, ground := Ground.phase }], guard := none }) rfl (fun K hK => ?_) AllReadyH.nil)
   rw [if_pos (by rfl)]
   refine wp_store_mid _ _ _ rfl _ _ ([.slice aa 16 ca, .slice ab 16 cb]).toArray rfl rfl (by have := arr_there pr; simpa using this) infoPt (all_oneCell_toArray (by simp [Value.oneCell'])) ?_
   simp only [Act.put]
   replace fr := bel_sc fr (w.heap.size + 2) ([.slice aa 16 ca, .slice ab 16 cb]) (by omega)
   replace pa1 := pa1.sc (w.heap.size + 2) ([.slice aa 16 ca, .slice ab 16 cb]) (by omega)
   replace pak := pak.sc (w.heap.size + 2) ([.slice aa 16 ca, .slice ab 16 cb]) (by omega)
   replace pr := pr.sc0 ([.slice aa 16 ca, .slice ab 16 cb]) (by simp)
   replace vP := vP.sc (w.heap.size + 2) ([.slice aa 16 ca, .slice ab 16 cb]) (by omega)
   replace vD := vD.sc (w.heap.size + 2) ([.slice aa 16 ca, .slice ab 16 cb]) (by omega)
   replace vO := vO.sc (w.heap.size + 2) ([.slice aa 16 ca, .slice ab 16 cb]) (by omega)
   replace AL := AL.sc (w.heap.size + 2) ([.slice aa 16 ca, .slice ab 16 cb]) (by omega)
   replace AK := AK.sc (w.heap.size + 2) ([.slice aa 16 ca, .slice ab 16 cb]) (by omega)
   replace oa : (y9.setCells (w.heap.size + 2) 0 ([.slice aa 16 ca, .slice ab 16 cb])).ownsRow y8.heap.size 81 1 (.slice aa 16 ca) 16 (I64 x) := own_setCells oa ia (.inl hl) _
   replace ob : (y9.setCells (w.heap.size + 2) 0 ([.slice aa 16 ca, .slice ab 16 cb])).ownsRow y8.heap.size 81 1 (.slice ab 16 cb) 16 (I64 y) := own_setCells ob ib (.inl hl) _
   obtain ⟨V10, hVe⟩ : ∃ V, V = y9.setCells (w.heap.size + 2) 0 ([.slice aa 16 ca, .slice ab 16 cb]) := ⟨_, rfl⟩
   rw [← hVe] at fr pa1 pak pr vP vD vO AL AK oa ob ⊢
   clear hVe
   refine hK.out _ _ ⟨arr_range AL, arr_range AK⟩ (fun hHeld => ?_)
   clear hK K
   refine wpAnyH_ready (rs := [10]) (by kernel_rfl) (by simp) (AllReadyH.cons (o := { dst := some 5, op := Op.assign (Operand.const (Value.bool true)), type := 4, pos := "l06_point.go:81", after := #[{ on := 9, ground := Ground.chain }, { on := 0, ground := Ground.phase }, { on := 1, ground := Ground.phase }, { on := 2, ground := Ground.phase }, { on := 3, ground := Ground.phase }, { on := 4, ground := Ground.phase }, { on := 5, ground := Ground.phase }, { on := 6, ground := Ground.phase }, { on := 7, ground := Ground.phase }, { on := 8, ground := Ground.phase }, { on := 9, ground := Ground.phase }], guard := none }) rfl (fun K hK => ?_) AllReadyH.nil)
   go_simp
   refine hK.out _ _ ⟨arr_range AL, arr_range AK⟩ (fun hHeld => ?_)
   clear hK K
   refine wpAnyH_done (by kernel_rfl) ?_ _
   go_wp2
   exact bodyPost_ret (results_row_tmp (v := .bool true) (cs := [.slice aa 16 ca, .slice ab 16 cb]) rfl rfl rfl pr Tryd.underlying60 rfl infoPt) rfl ⟨_, rfl, HY.out (by simp) _ _ _ (ptT_16 nx ny (own_base oa (by omega)) (own_base ob (by omega)) hap), fr⟩

end Go.Proofs.YtihoaakbkffejaaDoor
namespace Go.Proofs.YtihoaakbkffejaaDoor
open Go.RowKit
set_option maxRecDepth 100000

end Go.Proofs.YtihoaakbkffejaaDoor

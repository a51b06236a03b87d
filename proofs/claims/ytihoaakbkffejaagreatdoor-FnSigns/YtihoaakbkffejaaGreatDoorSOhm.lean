/-
  What is proved here: the contract of the program's PtMul; where its variables hold the prime, d and the order; a multiplier is laid into a new cell; plain facts on memory; the contracts of the program's limbsRead and bytes: limbs out of 32 bytes, and back.
-/
import Derived.Test.YtihoaakbkffejaaGreatDoorSJio
import Derived.Test.YtihoaakbkffejaaGreatDoorSOm0
import Derived.Test.YtihoaakbkffejaaGreatDoorSOe
import Derived.Test.YtihoaakbkffejaaGreatDoorSJa
import Derived.Test.YtihoaakbkffejaaGreatDoorSFr
import Derived.Test.YtihoaakbkffejaaGreatDoorSJc
import Derived.Test.YtihoaakbkffejaaGreatDoorSFm
import Derived.Test.YtihoaakbkffejaaGreatDoorSFyq
namespace Go.Proofs.YtihoaakbkffejaaGreatDoor
open Go.RowKit
set_option maxRecDepth 100000

theorem qO_253 : qO < 2 ^ 253 := by decide
theorem sc_253 {ks : List Int} (h : scOk ks = true) : (val ks).toNat < 2 ^ 253 := by
 obtain ⟨_, h2, h3⟩ := (scOk_iff ks).1 h
 have h1 := val_nonneg (fun x hx => (h2 x hx).1)
 have h4 := qO_253
 have h5 : ((2 ^ 253 : Nat) : Int) = 2 ^ 253 := by norm_cast
 have : ((val ks).toNat : Int) < ((2 ^ 253 : Nat) : Int) := by rw [Int.toNat_of_nonneg h1, h5]; omega
 exact Int.ofNat_lt.1 this
theorem sc_laid_mu (w1 : World) (L : List Int) : Below w1.heap.size w1 ((w1.alloc (.cells #[.int .i64 0, .int .i64 0, .int .i64 0, .int .i64 0, .int .i64 0, .int .i64 0, .int .i64 0, .int .i64 0, .int .i64 0, .int .i64 0, .int .i64 0, .int .i64 0, .int .i64 0, .int .i64 0, .int .i64 0, .int .i64 0] 92)).setRow w1.heap.size (I64 L).toArray) ∧ Arr ((w1.alloc (.cells #[.int .i64 0, .int .i64 0, .int .i64 0, .int .i64 0, .int .i64 0, .int .i64 0, .int .i64 0, .int .i64 0, .int .i64 0, .int .i64 0, .int .i64 0, .int .i64 0, .int .i64 0, .int .i64 0, .int .i64 0, .int .i64 0] 92)).setRow w1.heap.size (I64 L).toArray) w1.heap.size 92 (I64 L) ∧ Arr (w1.alloc (.cells #[.int .i64 0, .int .i64 0, .int .i64 0, .int .i64 0, .int .i64 0, .int .i64 0, .int .i64 0, .int .i64 0, .int .i64 0, .int .i64 0, .int .i64 0, .int .i64 0, .int .i64 0, .int .i64 0, .int .i64 0, .int .i64 0] 92)) w1.heap.size 92 (I64 Z16) := by
 have q : Arr (w1.alloc (.cells #[.int .i64 0, .int .i64 0, .int .i64 0, .int .i64 0, .int .i64 0, .int .i64 0, .int .i64 0, .int .i64 0, .int .i64 0, .int .i64 0, .int .i64 0, .int .i64 0, .int .i64 0, .int .i64 0, .int .i64 0, .int .i64 0] 92)) w1.heap.size 92 (I64 Z16) := Arr.new w1 (I64 Z16) _
 exact ⟨setRow_below ((Below.refl _ _).alloc (Nat.le_refl _) _) _ _ (Nat.le_refl _), q.row _, q⟩

set_option maxHeartbeats 8000000 in
theorem implPtMul (a1 : Option Addr) (n1 c1 : Nat) (xs1 : List Int) (b1 : Option Addr) (m1 d1 : Nat) (ys1 : List Int) (ak : Option Addr) (nk ck : Nat) (ks : List Int) (w : World) (hx1 : Is w a1 n1 c1 xs1) (hy1 : Is w b1 m1 d1 ys1) (hk : Is w ak nk ck ks) (hV : Vr w 4 (I64 PL)) (hD : Vr w 5 (I64 DL)) (hO : Vr w 6 (I64 OL)) :
  Calls Tryz.prog 19 #[.agg #[.slice a1 n1 c1, .slice b1 m1 d1], .agg #[.slice ak nk ck]] w fun e w' => ∃ v, e = .returned (.tuple #[v, .bool (ptOk xs1 ys1 && scOk ks)]) ∧ PtT 65 w w' v (ptx (ptOk xs1 ys1 && scOk ks) (mul6 (mk6 xs1 ys1) (val ks).toNat)) (pty (ptOk xs1 ys1 && scOk ks) (mul6 (mk6 xs1 ys1) (val ks).toNat)) ∧ Below w.heap.size w w' := by
 obtain ⟨p, hp⟩ : ∃ p, p = ptOk xs1 ys1 := ⟨_, rfl⟩
 obtain ⟨L, hL⟩ : ∃ l, l = opL xs1 ys1 := ⟨_, rfl⟩
 obtain ⟨P, hP⟩ : ∃ P, P = mk6 xs1 ys1 := ⟨_, rfl⟩
 have HO1 : Hid (∀ Z, Below w.heap.size w Z → Vr Z 4 (I64 PL) → Vr Z 5 (I64 DL) → Calls Tryz.prog 41 #[.agg #[.slice a1 n1 c1, .slice b1 m1 d1]] Z fun e w' => e = .returned (.tuple #[.agg (I64 L).toArray, .bool p]) ∧ Below Z.heap.size Z w') := by
  unfold Hid; intro Z hZ h1 h2; rw [hL, hp]; exact implPtOpen a1 n1 c1 xs1 b1 m1 d1 ys1 Z (hx1.below hZ) (hy1.below hZ) h1 h2
 have nL : L.length = 64 := by rw [hL]; exact opL_len _ _
 have iL : (Tryz.prog.info? 67).map (·.size) = some (I64 L).toArray.size := by simpa [nL] using infoLp
 have HLL : Hid (p = true → L = P.cells ∧ P.Ok) := by
  unfold Hid; intro h; rw [hp] at h; obtain ⟨k1, k2, _⟩ := (ptOk_iff _ _).1 h; rw [hL, hP]; unfold opL; rw [if_pos h]; exact ⟨rfl, mk6_ok k1 k2⟩
 obtain ⟨q, hq⟩ : ∃ q, q = scOk ks := ⟨_, rfl⟩
 obtain ⟨Kk, hK⟩ : ∃ l, l = scL ks := ⟨_, rfl⟩
 have HLO : Hid (∀ Z, Below w.heap.size w Z → Calls Tryz.prog 64 #[.slice ak nk ck] Z fun e w' => e = .returned (.tuple #[.agg (I64 (lmL ks)).toArray, .bool (lmOk ks)]) ∧ Below Z.heap.size Z w') := by
  unfold Hid; intro Z hZ; exact implLimbsOf ak nk ck ks Z (hk.below hZ)
 have HMU : Hid (∀ Z, Vr Z 6 (I64 OL) → Calls Tryz.prog 58 #[.agg (I64 (lmL ks)).toArray, .bool (lmOk ks)] Z fun e w' => e = .returned (.tuple #[.agg (I64 Kk).toArray, .bool q]) ∧ Below Z.heap.size Z w') := by
  unfold Hid; intro Z hZ; rw [hK, hq]; exact implMuSc ks Z hZ
 have nK : Kk.length = 16 := by rw [hK]; exact scL_len ks
 have iK : (Tryz.prog.info? 92).map (·.size) = some (I64 Kk).toArray.size := by simpa [nK] using infoM
 have iiK : (Tryz.prog.info? 92).map (·.size) = some (I64 Kk).length := by simpa [nK] using infoM
 have HK : Hid (q = true → Kk = ks ∧ Lm ks) := by
  unfold Hid; intro h; rw [hq] at h; rw [hK]; unfold scL; rw [if_pos h]; exact ⟨rfl, ((scOk_iff ks).1 h).2.1⟩
 obtain ⟨x, hx⟩ : ∃ x, x = flx (mul6 (mk6 xs1 ys1) (val ks).toNat) := ⟨_, rfl⟩
 obtain ⟨y, hy⟩ : ∃ y, y = fly (mul6 (mk6 xs1 ys1) (val ks).toNat) := ⟨_, rfl⟩
 have nx : x.length = 16 := by rw [hx]; exact red_len _
 have ny : y.length = 16 := by rw [hy]; exact red_len _
 obtain ⟨Lx, hLx⟩ : ∃ l, l = ptx (ptOk xs1 ys1 && scOk ks) (mul6 (mk6 xs1 ys1) (val ks).toNat) := ⟨_, rfl⟩
 obtain ⟨Ly, hLy⟩ : ∃ l, l = pty (ptOk xs1 ys1 && scOk ks) (mul6 (mk6 xs1 ys1) (val ks).toNat) := ⟨_, rfl⟩
 have HN : Hid ((p && q) = false → ∀ {w' : World}, PtT 65 w w' (.agg #[.slice none 0 0, .slice none 0 0]) Lx Ly) := by
  unfold Hid; intro h w'; rw [hp, hq] at h; rw [hLx, hLy, h]; exact ptT_nil _ _ _
 have HY : Hid ((p && q) = true → ∀ (V V' : World) (v : Value), PtT 65 V V' v x y → PtT 65 V V' v Lx Ly) := by
  unfold Hid; intro h V V' v k; rw [hp, hq] at h; rw [hLx, hLy, h]; unfold ptx pty; rw [if_pos rfl, if_pos rfl, ← hx, ← hy]; exact k
 obtain ⟨R, hR⟩ : ∃ R, R = jul6 P (val ks).toNat := ⟨_, rfl⟩
 have hRo : R.Ok := by rw [hR]; exact jst_ok _ _ _
 have HX : Hid (p = true → q = true → x = flx R ∧ y = fly R) := by
  unfold Hid; intro h k; rw [hp] at h; rw [hq] at k; rw [hx, hy, hR, hP]; exact ⟨(mul_lists h _ (sc_253 k)).1.symm, (mul_lists h _ (sc_253 k)).2.symm⟩
 obtain ⟨O, hOe⟩ : ∃ P, P = mk6 (lim 16 0) (lim 16 1) := ⟨_, rfl⟩
 have hOo : O.Ok := by rw [hOe]; exact mk6_ok zero_ok one_ok
 have HZ : Hid (∀ Z, Vr Z 4 (I64 PL) → Calls Tryz.prog 67 #[.agg #[.int .i64 0, .int .i64 0, .int .i64 0, .int .i64 0, .int .i64 0, .int .i64 0, .int .i64 0, .int .i64 0, .int .i64 0, .int .i64 0, .int .i64 0, .int .i64 0, .int .i64 0, .int .i64 0, .int .i64 0, .int .i64 0], .agg #[.int .i64 1, .int .i64 0, .int .i64 0, .int .i64 0, .int .i64 0, .int .i64 0, .int .i64 0, .int .i64 0, .int .i64 0, .int .i64 0, .int .i64 0, .int .i64 0, .int .i64 0, .int .i64 0, .int .i64 0, .int .i64 0]] Z fun e w' => e = .returned (.agg (I64 O.cells).toArray) ∧ Below Z.heap.size Z w') := by
  unfold Hid; intro Z hZ; have := implLongAt (lim 16 0) (lim 16 1) Z zero_ok one_ok hZ; rw [← hOe, zero_lim, one_lim] at this; exact this
 have HS : Hid (p = true → q = true → ∀ Z, Vr Z 4 (I64 PL) → Vr Z 5 (I64 DL) → Calls Tryz.prog 66 #[.iface 67 (.agg (I64 O.cells).toArray), .iface 67 (.agg (I64 P.cells).toArray), .agg (I64 Kk).toArray] Z fun e w' => e = .returned (.iface 67 (.agg (I64 R.cells).toArray)) ∧ Below Z.heap.size Z w') := by
  unfold Hid; intro h k Z hZ hZ2; obtain ⟨e1, e2⟩ := HK.out k; rw [hR, hOe, e1]; exact implMany P ks Z (HLL.out h).2 (by rw [← e1]; exact nK) e2 hZ hZ2
 have HC : Hid (p = true → q = true → ∀ Z, Vr Z 4 (I64 PL) → Calls Tryz.prog 65 #[.iface 67 (.agg (I64 R.cells).toArray)] Z fun e w' => ∃ v, e = .returned v ∧ PtT 65 Z w' v x y ∧ Below Z.heap.size Z w') := by
  unfold Hid; intro h k Z hZ
  rw [(HX.out h k).1, (HX.out h k).2]; exact implClosed R Z hRo hZ
 rw [← hLx, ← hLy, ← hp, ← hq]
 obtain ⟨lk, hlk⟩ : ∃ l, l = lmL ks := ⟨_, rfl⟩
 obtain ⟨bk, hbk⟩ : ∃ l, l = lmOk ks := ⟨_, rfl⟩
 rw [← hlk, ← hbk] at HLO HMU
 obtain ⟨W, hW⟩ : ∃ W, W = ((w.alloc (.cells #[.slice a1 n1 c1, .slice b1 m1 d1] 33)).alloc (.cells #[.slice ak nk ck] 41)).alloc (.cells #[.slice none 0 0, .slice none 0 0] 33) := ⟨_, rfl⟩
 have fr : Below w.heap.size w W := by rw [hW]; exact ((((Below.refl _ _).alloc (Nat.le_refl _) _).alloc (by simp) _).alloc (by simp; omega) _)
 have pa1 : Arr W w.heap.size 33 ([.slice a1 n1 c1, .slice b1 m1 d1]) := by
  rw [hW]
  have := ((Arr.new (w) ([.slice a1 n1 c1, .slice b1 m1 d1]) 33).alloc (.cells #[.slice ak nk ck] 41)).alloc (.cells #[.slice none 0 0, .slice none 0 0] 33)
  exact this
 have pak : Arr W (w.heap.size + 1) 41 ([.slice ak nk ck]) := by
  rw [hW]
  have := (Arr.new (w.alloc (.cells #[.slice a1 n1 c1, .slice b1 m1 d1] 33)) ([.slice ak nk ck]) 41).alloc (.cells #[.slice none 0 0, .slice none 0 0] 33)
  rw [World.size_alloc] at this
  exact this
 have pr : Arr W (w.heap.size + 2) 33 ([.slice none 0 0, .slice none 0 0]) := by
  rw [hW]
  have := Arr.new ((w.alloc (.cells #[.slice a1 n1 c1, .slice b1 m1 d1] 33)).alloc (.cells #[.slice ak nk ck] 41)) ([.slice none 0 0, .slice none 0 0]) 33
  rw [World.size_alloc, World.size_alloc] at this
  exact this
 have h0P := hV.lt
 have vP := hV.kept fr
 have h0D := hD.lt
 have vD := hD.kept fr
 have h0O := hO.lt
 have vO := hO.kept fr
 clear hV hD hO
 clear hx hy hLx hLy hR HX HK hp hq hL hP hK hOe hlk hbk hx1 hy1 hk
 go_enter Tryz.func19, Tryz.ntmps19
 go_upto_region 1 with fail
 rw [← hW]
 clear hW
 go_wp2_with (refine wpList_load_row rfl 33 _ rfl w.heap.size rfl 33 ([Value.slice a1 n1 c1,  Value.slice b1 m1 d1]).toArray (0, 0) _ pa1 Tryz.underlying33 rfl infoPt ?_)
 refine (HO1.out _ fr vP vD).mono ?_
 rintro e y1 ⟨rfl, hb1⟩
 replace fr := fr.trans (hb1.mono fr.size)
 replace pa1 := pa1.kept hb1
 replace pak := pak.kept hb1
 replace pr := pr.kept hb1
 replace vP := vP.kept hb1
 replace vD := vD.kept hb1
 replace vO := vO.kept hb1
 clear hb1
 have hXL : w.heap.size < y1.heap.size ∧ (w.heap.size + 1) < y1.heap.size ∧ (w.heap.size + 2) < y1.heap.size ∧ w.heap.size ≤ y1.heap.size := ⟨pa1.lt, pak.lt, pr.lt, fr.size⟩
 obtain ⟨bV, AL, q1⟩ := laid_lp y1 L
 replace fr := fr.trans (bV.mono fr.size)
 replace pa1 := pa1.kept bV
 replace pak := pak.kept bV
 replace pr := pr.kept bV
 replace vP := vP.kept bV
 replace vD := vD.kept bV
 replace vO := vO.kept bV
 go_upto_region 2 with (refine wpList_store_row rfl 67 _ _ rfl y1.heap.size (I64 L).toArray rfl rfl 67 _ q1 iL (by simp [nL]) (by simp [Value.oneCell']) ?_)
 obtain ⟨V2, hVV⟩ : ∃ V, V = (y1.alloc (.cells #[.int .i64 0, .int .i64 0, .int .i64 0, .int .i64 0, .int .i64 0, .int .i64 0, .int .i64 0, .int .i64 0, .int .i64 0, .int .i64 0, .int .i64 0, .int .i64 0, .int .i64 0, .int .i64 0, .int .i64 0, .int .i64 0, .int .i64 0, .int .i64 0, .int .i64 0, .int .i64 0, .int .i64 0, .int .i64 0, .int .i64 0, .int .i64 0, .int .i64 0, .int .i64 0, .int .i64 0, .int .i64 0, .int .i64 0, .int .i64 0, .int .i64 0, .int .i64 0, .int .i64 0, .int .i64 0, .int .i64 0, .int .i64 0, .int .i64 0, .int .i64 0, .int .i64 0, .int .i64 0, .int .i64 0, .int .i64 0, .int .i64 0, .int .i64 0, .int .i64 0, .int .i64 0, .int .i64 0, .int .i64 0, .int .i64 0, .int .i64 0, .int .i64 0, .int .i64 0, .int .i64 0, .int .i64 0, .int .i64 0, .int .i64 0, .int .i64 0, .int .i64 0, .int .i64 0, .int .i64 0, .int .i64 0, .int .i64 0, .int .i64 0, .int .i64 0] 67)).setRow y1.heap.size (I64 L).toArray := ⟨_, rfl⟩
 obtain ⟨XL, hE⟩ : ∃ E, E = y1.heap.size := ⟨_, rfl⟩
 rw [← hVV] at fr pa1 pak pr vP vD vO AL ⊢
 rw [← hE] at AL hXL ⊢
 clear hVV hE q1 bV
 have c0 : V2.cell? ⟨w.heap.size + 1, 0, none⟩ = some (.slice ak nk ck) := pak.cell 0
 go_wp2_with fail
 clear c0
 refine (HLO.out _ fr).mono ?_
 rintro e y3 ⟨rfl, hb3⟩
 replace fr := fr.trans (hb3.mono fr.size)
 replace pa1 := pa1.kept hb3
 replace pak := pak.kept hb3
 replace pr := pr.kept hb3
 replace vP := vP.kept hb3
 replace vD := vD.kept hb3
 replace vO := vO.kept hb3
 replace AL := AL.kept hb3
 clear hb3
 go_wp2_with fail
 refine (HMU.out _ vO).mono ?_
 rintro e y4 ⟨rfl, hb4⟩
 replace fr := fr.trans (hb4.mono fr.size)
 replace pa1 := pa1.kept hb4
 replace pak := pak.kept hb4
 replace pr := pr.kept hb4
 replace vP := vP.kept hb4
 replace vD := vD.kept hb4
 replace vO := vO.kept hb4
 replace AL := AL.kept hb4
 clear hb4
 have hXK : w.heap.size < y4.heap.size ∧ (w.heap.size + 1) < y4.heap.size ∧ (w.heap.size + 2) < y4.heap.size ∧ XL < y4.heap.size ∧ w.heap.size ≤ y4.heap.size := ⟨pa1.lt, pak.lt, pr.lt, AL.lt, fr.size⟩
 obtain ⟨bV, AK, q1⟩ := sc_laid_mu y4 Kk
 replace fr := fr.trans (bV.mono fr.size)
 replace pa1 := pa1.kept bV
 replace pak := pak.kept bV
 replace pr := pr.kept bV
 replace vP := vP.kept bV
 replace vD := vD.kept bV
 replace vO := vO.kept bV
 replace AL := AL.kept bV
 go_upto_region 3 with (refine wpList_store_row rfl 92 _ _ rfl y4.heap.size (I64 Kk).toArray rfl rfl 92 _ q1 iK (by simp [nK]) (by simp [Value.oneCell']) ?_)
 obtain ⟨V5, hVV⟩ : ∃ V, V = (y4.alloc (.cells #[.int .i64 0, .int .i64 0, .int .i64 0, .int .i64 0, .int .i64 0, .int .i64 0, .int .i64 0, .int .i64 0, .int .i64 0, .int .i64 0, .int .i64 0, .int .i64 0, .int .i64 0, .int .i64 0, .int .i64 0, .int .i64 0] 92)).setRow y4.heap.size (I64 Kk).toArray := ⟨_, rfl⟩
 obtain ⟨XK, hE⟩ : ∃ E, E = y4.heap.size := ⟨_, rfl⟩
 rw [← hVV] at fr pa1 pak pr vP vD vO AL AK ⊢
 rw [← hE] at AK hXK ⊢
 clear hVV hE q1 bV
 cases p with
 | false =>
  have h2 := pr.row ([.slice none 0 0, .slice none 0 0])
  have HB : Hid _ := setRow_below fr (w.heap.size + 2) ([.slice none 0 0, .slice none 0 0]).toArray (by omega)
  go_wp2_with (refine wpList_store_row rfl 33 _ _ rfl (w.heap.size + 2) ([Value.slice none 0 0,  Value.slice none 0 0]).toArray rfl rfl 33 _ pr infoPt rfl (by simp [Value.oneCell']) ?_)
  exact bodyPost_ret (results_row_tmp (v := .bool false) (cs := [.slice none 0 0, .slice none 0 0]) rfl rfl rfl h2 Tryz.underlying33 rfl infoPt) rfl ⟨_, rfl, HN.out (by simp), HB.out⟩
 | true =>
  cases q with
  | false =>
   have h2 := pr.row ([.slice none 0 0, .slice none 0 0])
   have HB : Hid _ := setRow_below fr (w.heap.size + 2) ([.slice none 0 0, .slice none 0 0]).toArray (by omega)
   go_wp2_with (refine wpList_store_row rfl 33 _ _ rfl (w.heap.size + 2) ([Value.slice none 0 0,  Value.slice none 0 0]).toArray rfl rfl 33 _ pr infoPt rfl (by simp [Value.oneCell']) ?_)
   exact bodyPost_ret (results_row_tmp (v := .bool false) (cs := [.slice none 0 0, .slice none 0 0]) rfl rfl rfl h2 Tryz.underlying33 rfl infoPt) rfl ⟨_, rfl, HN.out (by simp), HB.out⟩
  | true =>
   obtain ⟨eL, hPo⟩ := HLL.out (by simp)
   subst eL
   have hip := infoLpl hPo
   have huP : Tryz.prog.underlying 67 = some _ := Tryz.underlying67
   have huK : Tryz.prog.underlying 92 = some _ := Tryz.underlying92
   go_upto_region 5 with fail
   try simp only [Act.put]
   have bD : Below V5.heap.size V5 V5.drew := (Below.refl _ _).drew
   replace fr := fr.trans (bD.mono fr.size)
   replace pa1 := pa1.kept bD
   replace pak := pak.kept bD
   replace pr := pr.kept bD
   replace vP := vP.kept bD
   replace vD := vD.kept bD
   replace vO := vO.kept bD
   replace AL := AL.kept bD
   replace AK := AK.kept bD
   clear bD
   refine wp_region_held_drew (S := fun W => W.rangeAt XL 0 (I64 P.cells) ∧ W.rangeAt XK 0 (I64 Kk)) (by kernel_rfl) ⟨arr_range AL, arr_range AK⟩ (fun hHeld => ?_)
   obtain ⟨D6, hD⟩ : ∃ V, V = V5.drew := ⟨_, rfl⟩
   rw [← hD] at hHeld fr pa1 pak pr vP vD vO AL AK ⊢
   clear hD
   refine wpAnyH_take (i := 0) (oi := { dst := some 31, op := Op.build 65 #[], type := 65, pos := "l06_point.go:81", after := #[], guard := none }) (v := .agg #[.int .i64 0, .int .i64 0, .int .i64 0, .int .i64 0, .int .i64 0, .int .i64 0, .int .i64 0, .int .i64 0, .int .i64 0, .int .i64 0, .int .i64 0, .int .i64 0, .int .i64 0, .int .i64 0, .int .i64 0, .int .i64 0]) rfl (by kernel_rfl) (by kernel_rfl) (by kernel_rfl) (fun _ _ _ h => h) (.inl ⟨by rfl, fun _ _ => by kernel_rfl⟩) (by assumption) ?_
   simp only [Act.put, List.setIfInBounds_toArray, List.set_cons_zero, List.set_cons_succ]
   refine wpAnyH_take (i := 1) (oi := { dst := some 32, op := Op.build 65 #[(0, Operand.const (Value.int IntKind.i64 1))], type := 65, pos := "l06_point.go:81", after := #[], guard := none }) (v := .agg #[.int .i64 1, .int .i64 0, .int .i64 0, .int .i64 0, .int .i64 0, .int .i64 0, .int .i64 0, .int .i64 0, .int .i64 0, .int .i64 0, .int .i64 0, .int .i64 0, .int .i64 0, .int .i64 0, .int .i64 0, .int .i64 0]) rfl (by kernel_rfl) (by kernel_rfl) (by kernel_rfl) (fun _ _ _ h => h) (.inl ⟨by rfl, fun _ _ => by kernel_rfl⟩) (by assumption) ?_
   simp only [Act.put, List.setIfInBounds_toArray, List.set_cons_zero, List.set_cons_succ]
   refine wpAnyH_take (i := 4) (oi := { dst := some 35, op := Op.load 67 (Operand.tmp 6), type := 67, pos := "l06_point.go:81", after := #[], guard := none }) (v := _) rfl (by kernel_rfl) (by kernel_rfl) (by kernel_rfl) (fun _ _ _ h => h) (yieldsIf_load_mid (by rfl) _ _ rfl _ _ rfl (I64 P.cells) _ (fun _ h => h.1) huP rfl hip) (by assumption) ?_
   simp only [Act.put, List.setIfInBounds_toArray, List.set_cons_zero, List.set_cons_succ]
   refine wpAnyH_take (i := 5) (oi := { dst := some 36, op := Op.makeInterface 67 (Operand.tmp 35), type := 111, pos := "l06_point.go:81", after := #[{ on := 4, ground := Ground.data }], guard := none }) (v := .iface 67 (.agg (I64 P.cells).toArray)) rfl (by kernel_rfl) (by kernel_rfl) (by kernel_rfl) (fun _ _ _ h => h) (.inl ⟨by rfl, fun _ _ => by rfl⟩) (by assumption) ?_
   simp only [Act.put, List.setIfInBounds_toArray, List.set_cons_zero, List.set_cons_succ]
   refine wpAnyH_take (i := 6) (oi := { dst := some 37, op := Op.load 92 (Operand.tmp 8), type := 92, pos := "l06_point.go:81", after := #[], guard := none }) (v := _) rfl (by kernel_rfl) (by kernel_rfl) (by kernel_rfl) (fun _ _ _ h => h) (yieldsIf_load_mid (by rfl) _ _ rfl _ _ rfl (I64 Kk) _ (fun _ h => h.2) huK rfl iiK) (by assumption) ?_
   simp only [Act.put, List.setIfInBounds_toArray, List.set_cons_zero, List.set_cons_succ]
   refine wpAnyH_ready (rs := [2]) (by kernel_rfl) (by simp) (AllReadyH.cons (o := { dst := some 33, op := Op.call { callee := Callee.value (Operand.func 67), args := #[Operand.tmp 31, Operand.tmp 32], argTypes := #[65, 65] }, type := 67, pos := "l06_point.go:81", after := #[{ on := 0, ground := Ground.data }, { on := 1, ground := Ground.data }], guard := none }) rfl (fun K hK => ?_) AllReadyH.nil)
   go_simp
   refine (HZ.out _ vP).mono ?_
   rintro e y7 ⟨rfl, hb7⟩
   replace fr := fr.trans (hb7.mono fr.size)
   replace pa1 := pa1.kept hb7
   replace pak := pak.kept hb7
   replace pr := pr.kept hb7
   replace vP := vP.kept hb7
   replace vD := vD.kept hb7
   replace vO := vO.kept hb7
   replace AL := AL.kept hb7
   replace AK := AK.kept hb7
   clear hb7
   go_wp2_with fail
   refine hK.out _ _ ⟨arr_range AL, arr_range AK⟩ (fun hHeld => ?_)
   clear hK K
   refine wpAnyH_take (i := 3) (oi := { dst := some 34, op := Op.makeInterface 67 (Operand.tmp 33), type := 111, pos := "l06_point.go:81", after := #[{ on := 2, ground := Ground.data }], guard := none }) (v := .iface 67 (.agg (I64 O.cells).toArray)) rfl (by kernel_rfl) (by kernel_rfl) (by kernel_rfl) (fun _ _ _ h => h) (.inl ⟨by rfl, fun _ _ => by rfl⟩) (by assumption) ?_
   simp only [Act.put, List.setIfInBounds_toArray, List.set_cons_zero, List.set_cons_succ]
   refine wpAnyH_ready (rs := [7]) (by kernel_rfl) (by simp) (AllReadyH.cons (o := { dst := some 38, op := Op.call { callee := Callee.value (Operand.func 66), args := #[Operand.tmp 34, Operand.tmp 36, Operand.tmp 37], argTypes := #[111, 111, 92] }, type := 111, pos := "l06_point.go:81", after := #[{ on := 3, ground := Ground.data }, { on := 5, ground := Ground.data }, { on := 6, ground := Ground.data }, { on := 2, ground := Ground.chain }], guard := none }) rfl (fun K hK => ?_) AllReadyH.nil)
   go_simp
   refine (HS.out (by simp) (by simp) _ vP vD).mono ?_
   rintro e y8 ⟨rfl, hb8⟩
   replace fr := fr.trans (hb8.mono fr.size)
   replace pa1 := pa1.kept hb8
   replace pak := pak.kept hb8
   replace pr := pr.kept hb8
   replace vP := vP.kept hb8
   replace vD := vD.kept hb8
   replace vO := vO.kept hb8
   replace AL := AL.kept hb8
   replace AK := AK.kept hb8
   clear hb8
   go_wp2_with fail
   refine hK.out _ _ ⟨arr_range AL, arr_range AK⟩ (fun hHeld => ?_)
   clear hK K
   refine wpAnyH_ready (rs := [8]) (by kernel_rfl) (by simp) (AllReadyH.cons (o := { dst := some 39, op := Op.call { callee := Callee.value (Operand.func 65), args := #[Operand.tmp 38], argTypes := #[111] }, type := 33, pos := "l06_point.go:81", after := #[{ on := 7, ground := Ground.data }, { on := 7, ground := Ground.chain }], guard := none }) rfl (fun K hK => ?_) AllReadyH.nil)
   go_simp
   have hl : w.heap.size + 2 < y8.heap.size := pr.lt
   refine (HC.out (by simp) (by simp) _ vP).mono ?_
   rintro e y9 ⟨v, rfl, hpt, hb9⟩
   replace fr := fr.trans (hb9.mono fr.size)
   replace pa1 := pa1.kept hb9
   replace pak := pak.kept hb9
   replace pr := pr.kept hb9
   replace vP := vP.kept hb9
   replace vD := vD.kept hb9
   replace vO := vO.kept hb9
   replace AL := AL.kept hb9
   replace AK := AK.kept hb9
   clear hb9
   obtain ⟨aa, ca, ab, cb, rfl, oa, ob, hap⟩ := hpt
   rw [nx, ny] at hap ⊢
   rw [nx] at oa
   rw [ny] at ob
   have ia := In.of oa
   have ib := In.of ob
   go_wp2_with fail
   refine hK.out _ _ ⟨arr_range AL, arr_range AK⟩ (fun hHeld => ?_)
   clear hK K
   refine wpAnyH_ready (rs := [9]) (by kernel_rfl) (by simp) (AllReadyH.cons (o := { dst := none, op := Op.store 33 (Operand.tmp 4) (Operand.tmp 39), type := 0, pos := "l06_point.go:81", after := #[{ on := 8, ground := Ground.data }, { on := 8, ground := Ground.chain }, { on := 0, ground := Ground.phase }, { on := 1, ground := Ground.phase }, { on := 2, ground := Ground.phase }, { on := 3, ground := Ground.phase }, { on := 4, ground := Ground.phase }, { on := 5, ground := Ground.phase }, { on := 6, ground := Ground.phase }, { on := 7, ground := Ground.phase }, { on := 8, ground := Ground.phase }], guard := none }) rfl (fun K hK => ?_) AllReadyH.nil)
   rw [if_pos (by rfl)]
   refine wp_store_mid _ _ _ rfl _ _ ([.slice aa 16 ca, .slice ab 16 cb]).toArray rfl rfl (by have := arr_there pr; simpa using this) infoPt (all_oneCell_toArray (by simp [Value.oneCell'])) ?_
   simp only [Act.put]
   replace fr := bel_sc fr (w.heap.size + 2) ([.slice aa 16 ca, .slice ab 16 cb]) (by omega)
   replace pa1 := pa1.sc (w.heap.size + 2) ([.slice aa 16 ca, .slice ab 16 cb]) (by omega)
   replace pak := pak.sc (w.heap.size + 2) ([.slice aa 16 ca, .slice ab 16 cb]) (by omega)
   replace pr := pr.sc0 ([.slice aa 16 ca, .slice ab 16 cb]) (by simp)
   replace vP := vP.sc (w.heap.size + 2) ([.slice aa 16 ca, .slice ab 16 cb]) (by omega)
   replace vD := vD.sc (w.heap.size + 2) ([.slice aa 16 ca, .slice ab 16 cb]) (by omega)
   replace vO := vO.sc (w.heap.size + 2) ([.slice aa 16 ca, .slice ab 16 cb]) (by omega)
   replace AL := AL.sc (w.heap.size + 2) ([.slice aa 16 ca, .slice ab 16 cb]) (by omega)
   replace AK := AK.sc (w.heap.size + 2) ([.slice aa 16 ca, .slice ab 16 cb]) (by omega)
   replace oa : (y9.setCells (w.heap.size + 2) 0 ([.slice aa 16 ca, .slice ab 16 cb])).ownsRow y8.heap.size 65 1 (.slice aa 16 ca) 16 (I64 x) := own_setCells oa ia (.inl hl) _
   replace ob : (y9.setCells (w.heap.size + 2) 0 ([.slice aa 16 ca, .slice ab 16 cb])).ownsRow y8.heap.size 65 1 (.slice ab 16 cb) 16 (I64 y) := own_setCells ob ib (.inl hl) _
   obtain ⟨V10, hVe⟩ : ∃ V, V = y9.setCells (w.heap.size + 2) 0 ([.slice aa 16 ca, .slice ab 16 cb]) := ⟨_, rfl⟩
   rw [← hVe] at fr pa1 pak pr vP vD vO AL AK oa ob ⊢
   clear hVe
   refine hK.out _ _ ⟨arr_range AL, arr_range AK⟩ (fun hHeld => ?_)
   clear hK K
   refine wpAnyH_ready (rs := [10]) (by kernel_rfl) (by simp) (AllReadyH.cons (o := { dst := some 5, op := Op.assign (Operand.const (Value.bool true)), type := 4, pos := "l06_point.go:81", after := #[{ on := 9, ground := Ground.chain }, { on := 0, ground := Ground.phase }, { on := 1, ground := Ground.phase }, { on := 2, ground := Ground.phase }, { on := 3, ground := Ground.phase }, { on := 4, ground := Ground.phase }, { on := 5, ground := Ground.phase }, { on := 6, ground := Ground.phase }, { on := 7, ground := Ground.phase }, { on := 8, ground := Ground.phase }, { on := 9, ground := Ground.phase }], guard := none }) rfl (fun K hK => ?_) AllReadyH.nil)
   go_simp
   refine hK.out _ _ ⟨arr_range AL, arr_range AK⟩ (fun hHeld => ?_)
   clear hK K
   refine wpAnyH_done (by kernel_rfl) ?_ _
   go_wp2
   exact bodyPost_ret (results_row_tmp (v := .bool true) (cs := [.slice aa 16 ca, .slice ab 16 cb]) rfl rfl rfl pr Tryz.underlying33 rfl infoPt) rfl ⟨_, rfl, HY.out (by simp) _ _ _ (ptT_16 nx ny (own_base oa (by omega)) (own_base ob (by omega)) hap), fr⟩

end Go.Proofs.YtihoaakbkffejaaGreatDoor
namespace Go.Proofs.YtihoaakbkffejaaGreatDoor
open Go.RowKit
set_option maxRecDepth 100000

/-- A multiplier is laid into a new cell. -/
theorem laid_mu (w1 : World) (L : List Int) : Below w1.heap.size w1 ((w1.alloc (.cells #[.int .i64 0, .int .i64 0, .int .i64 0, .int .i64 0, .int .i64 0, .int .i64 0, .int .i64 0, .int .i64 0, .int .i64 0, .int .i64 0, .int .i64 0, .int .i64 0, .int .i64 0, .int .i64 0, .int .i64 0, .int .i64 0] 92)).setRow w1.heap.size (I64 L).toArray) ∧ Arr ((w1.alloc (.cells #[.int .i64 0, .int .i64 0, .int .i64 0, .int .i64 0, .int .i64 0, .int .i64 0, .int .i64 0, .int .i64 0, .int .i64 0, .int .i64 0, .int .i64 0, .int .i64 0, .int .i64 0, .int .i64 0, .int .i64 0, .int .i64 0] 92)).setRow w1.heap.size (I64 L).toArray) w1.heap.size 92 (I64 L) ∧ Arr (w1.alloc (.cells #[.int .i64 0, .int .i64 0, .int .i64 0, .int .i64 0, .int .i64 0, .int .i64 0, .int .i64 0, .int .i64 0, .int .i64 0, .int .i64 0, .int .i64 0, .int .i64 0, .int .i64 0, .int .i64 0, .int .i64 0, .int .i64 0] 92)) w1.heap.size 92 (I64 Z16) := by
  have q : Arr (w1.alloc (.cells #[.int .i64 0, .int .i64 0, .int .i64 0, .int .i64 0, .int .i64 0, .int .i64 0, .int .i64 0, .int .i64 0, .int .i64 0, .int .i64 0, .int .i64 0, .int .i64 0, .int .i64 0, .int .i64 0, .int .i64 0, .int .i64 0] 92)) w1.heap.size 92 (I64 Z16) := Arr.new w1 (I64 Z16) _
  exact ⟨setRow_below ((Below.refl _ _).alloc (Nat.le_refl _) _) _ _ (Nat.le_refl _), q.row _, q⟩

end Go.Proofs.YtihoaakbkffejaaGreatDoor
namespace Go.Proofs.YtihoaakbkffejaaGreatDoor
open Go.RowKit
set_option maxRecDepth 100000

/-- What is read of the first k bytes. -/
def rdP (bs : List Int) (k : Nat) : List Int := (List.range 16).map fun i => (if 2 * i < k then bs.getD (2 * i) 0 else 0) + 256 * (if 2 * i + 1 < k then bs.getD (2 * i + 1) 0 else 0)
theorem rdP_len (bs : List Int) (k : Nat) : (rdP bs k).length = 16 := by simp [rdP]
theorem rdP_zero (bs : List Int) : rdP bs 0 = Z16 := by simp [rdP]; rfl
theorem rdP_end (bs : List Int) : rdP bs 32 = rdL bs := by
  unfold rdP rdL
  apply List.map_congr_left
  intro i hi
  have := List.mem_range.1 hi
  rw [if_pos (by omega), if_pos (by omega)]
theorem rdP_get (bs : List Int) (k i : Nat) (h : i < 16) : (rdP bs k).getD i 0 = (if 2 * i < k then bs.getD (2 * i) 0 else 0) + 256 * (if 2 * i + 1 < k then bs.getD (2 * i + 1) 0 else 0) := by
  simp [rdP, h]
theorem rdP_set (bs : List Int) (k j : Nat) (hj : j = k / 2) (hk : k < 32) (v : Int) (hv : v = (rdP bs (k + 1)).getD j 0) : (I64 (rdP bs k)).set j (.int .i64 v) = I64 (rdP bs (k + 1)) := by
  rw [← List.map_set]
  congr 1
  have ge : ∀ m i, (rdP bs m)[i]? = if i < 16 then some ((rdP bs m).getD i 0) else none := by
    intro m i
    split
    · rename_i h; rw [List.getD, List.getElem?_eq_getElem (by rw [rdP_len]; exact h)]; rfl
    · rename_i h; rw [List.getElem?_eq_none (by rw [rdP_len]; omega)]
  apply List.ext_getElem?
  intro i
  rw [List.getElem?_set, ge, ge, rdP_len]
  by_cases e : j = i
  · subst e
    rw [if_pos rfl, if_pos (by omega), if_pos (by omega), hv]
  · rw [if_neg e]
    by_cases hi : i < 16
    · rw [if_pos hi, if_pos hi, rdP_get bs k i hi, rdP_get bs (k + 1) i hi]
      have e1 : (2 * i < k) ↔ (2 * i < k + 1) := by omega
      have e2 : (2 * i + 1 < k) ↔ (2 * i + 1 < k + 1) := by omega
      simp only [e1, e2]
    · rw [if_neg hi, if_neg hi]
theorem rdP_even (bs : List Int) (k j : Nat) (hj : k = 2 * j) (hk : k < 32) : (rdP bs k).getD j 0 = 0 ∧ (rdP bs (k + 1)).getD j 0 = bs.getD k 0 := by
  subst hj
  rw [rdP_get _ _ _ (by omega), rdP_get _ _ _ (by omega), if_neg (by omega), if_neg (by omega), if_pos (by omega), if_neg (by omega)]
  omega
theorem rdP_odd (bs : List Int) (k j : Nat) (hj : k = 2 * j + 1) (hk : k < 32) : (rdP bs k).getD j 0 = bs.getD (2 * j) 0 ∧ (rdP bs (k + 1)).getD j 0 = bs.getD (2 * j) 0 + 256 * bs.getD k 0 := by
  subst hj
  rw [rdP_get _ _ _ (by omega), rdP_get _ _ _ (by omega), if_pos (by omega), if_neg (by omega), if_pos (by omega), if_pos (by omega)]
  omega
/-- Whether there are as many bytes; the limbs, or none. -/
def rdB (bs : List Int) : Bool := decide (bs.length = 32)
def rdZ (bs : List Int) : List Int := if rdB bs = true then rdL bs else Z16
theorem rdZ_len (bs : List Int) : (rdZ bs).length = 16 := by unfold rdZ; split <;> simp [rdL_len]
theorem or_zero {x : Int} (h0 : 0 ≤ x) (h1 : x < 256) : bits .or .i64 0 x = x := by
  have := bits_join .i64 63 (by decide) (fun n a b => by rw [IntKind.wrap_i64]; omega) 8 0 x (by omega) (by decide) (by decide) h0 (by omega) (by omega)
  rw [this]; omega
theorem or_high {x y : Int} (h0 : 0 ≤ x) (h1 : x < 256) (g0 : 0 ≤ y) (g1 : y < 256) : bits .or .i64 y (x * 256) = y + 256 * x := by
  have := bits_join .i64 63 (by decide) (fun n a b => by rw [IntKind.wrap_i64]; omega) 8 (x * 256) y (by omega) (by omega) (by omega) g0 (by omega) (by omega)
  have hc : bits .or .i64 y (x * 256) = bits .or .i64 (x * 256) y := by unfold bits; simp only [BitVec.or_comm]
  rw [hc, this]; omega

set_option maxHeartbeats 4000000 in
theorem implLimbsRead (a : Option Addr) (n c : Nat) (bs : List Int) (w : World) (hx : Bs w a n c bs) :
    Calls Tryz.prog 56 #[.slice a n c] w fun e w' => e = .returned (.tuple #[.agg (I64 (rdZ bs)).toArray, .bool (rdB bs)]) ∧ Below w.heap.size w w' := by
  obtain ⟨_, hl, hc, hr, hx⟩ := hx
  obtain ⟨L, hL⟩ : ∃ L, L = rdZ bs := ⟨_, rfl⟩
  obtain ⟨r, hrr⟩ : ∃ r, r = rdB bs := ⟨_, rfl⟩
  have HLr : Hid (L = if r = true then rdL bs else Z16) := by unfold Hid; rw [hL, hrr]; rfl
  have HRR : Hid _ := hrr
  rw [← hL, ← hrr]
  clear hL hrr
  obtain ⟨W, hW⟩ : ∃ W, W = (w.alloc (.cells #[.int .i64 0, .int .i64 0, .int .i64 0, .int .i64 0, .int .i64 0, .int .i64 0, .int .i64 0, .int .i64 0, .int .i64 0, .int .i64 0, .int .i64 0, .int .i64 0, .int .i64 0, .int .i64 0, .int .i64 0, .int .i64 0] 65)).alloc (.cells #[.int .i64 0, .int .i64 0, .int .i64 0, .int .i64 0, .int .i64 0, .int .i64 0, .int .i64 0, .int .i64 0, .int .i64 0, .int .i64 0, .int .i64 0, .int .i64 0, .int .i64 0, .int .i64 0, .int .i64 0, .int .i64 0] 65) := ⟨_, rfl⟩
  have g1 : Arr W w.heap.size 65 (I64 Z16) := by rw [hW]; exact (Arr.new w (I64 Z16) _).alloc _
  have g0 : Arr W (w.heap.size + 1) 65 (I64 Z16) := by
    rw [hW]
    have := Arr.new (w.alloc (.cells (I64 Z16).toArray 65)) (I64 Z16) 65
    rw [World.size_alloc] at this
    exact this
  have gB : Below w.heap.size w W := by rw [hW]; exact ((Below.refl _ _).alloc (Nat.le_refl _) _).alloc (by simp) _
  by_cases hn : n = 32
  rotate_left
  · have hf : r = false := by rw [HRR.out]; unfold rdB; simp [show ¬ bs.length = 32 by omega]
    have HE : Hid (L = Z16) := by unfold Hid; rw [HLr.out, hf]; rfl
    have hn' : ((n : Int) != 32) = true := by simp; omega
    have hn'' : ¬ ((n : Int) = 32) := by omega
    have g0' := hW ▸ g0
    have g1' := hW ▸ g1
    have h2 := g1'.row (I64 Z16)
    have HB := setRow_below (hW ▸ gB) w.heap.size (I64 Z16).toArray (Nat.le_refl _)
    clear hx hr HRR HLr g0 g1 gB hW
    go_enter Tryz.func56, Tryz.ntmps56
    go_wp2_with (first
      | (refine wpList_load_row rfl 65 _ rfl (w.heap.size + 1) rfl 65 (I64 Z16).toArray (0, 0) _ g0' Tryz.underlying65 rfl infoL ?_)
      | (refine wpList_store_row rfl 65 _ _ rfl w.heap.size (I64 Z16).toArray rfl rfl 65 _ g1' infoL rfl (by simp [Value.oneCell']) ?_))
    exact bodyPost_ret (results_row_tmp (v := .bool false) (cs := I64 Z16) rfl rfl rfl h2 Tryz.underlying65 rfl infoL) rfl ⟨by first | rw [hf, HE.out] | rw [HE.out], HB⟩
  subst hn
  rcases hx with hx | ⟨b, o, rfl, hbs, hcell⟩
  · omega
  have hr' := gD_u8 hr
  have HU8 : Hid _ := hr'
  clear hr hr'
  go_enter Tryz.func56, Tryz.ntmps56
  go_wp2
  rw [← hW]
  clear hW
  go_loopw [13] (fun i wr => ∃ k : Nat, k ≤ 32 ∧ i = .int .i64 k ∧ Arr wr (w.heap.size + 1) 65 (I64 (rdP bs k)) ∧ Arr wr w.heap.size 65 (I64 Z16) ∧ Below w.heap.size w wr) (fun i _ => 32 - (intOf i).toNat)
  case atStart => exact ⟨0, by omega, rfl, by rw [rdP_zero]; exact g0, g1, gB⟩
  case round =>
    clear g0 g1 gB
    obtain ⟨k, hk, rfl, g0, g1, gB⟩ := hrel
    have hPl := rdP_len bs k
    by_cases hlt : k < 32
    · obtain ⟨x, hx⟩ : ∃ x, x = bs.getD k 0 := ⟨_, rfl⟩
      have hxb := HU8.out k
      rw [← hx] at hxb
      have hck : wr.cell? ⟨b, o + k, none⟩ = some (.int .u8 x) := by rw [hx]; exact (gB.cell (p := ⟨b, o + k, none⟩) hbs).trans (hcell k hlt)
      have hk32 : (k : Int) < 32 := by omega
      have hk0 : (0 : Int) ≤ (k : Int) := by omega
      obtain ⟨j, hj⟩ : ∃ j, j = k / 2 := ⟨_, rfl⟩
      have hj16 : j < 16 := by omega
      have q1 : (k : Int) / 2 = (j : Int) := by omega
      have q2 : (j : Int) < 16 := by omega
      have q3 : (0 : Int) ≤ (j : Int) := by omega
      have c1 : IntKind.i64.wrap x = x := by rw [IntKind.wrap_i64]; omega
      have hset := fun v hv => rdP_set bs k j hj hlt v hv
      have hfz := g0.frozen j
      by_cases hpar : k % 2 = 0
      · obtain ⟨h1, h2⟩ := rdP_even bs k j (by omega) hlt
        rw [← hx] at h2
        have cz : wr.cell? ⟨w.heap.size + 1, j, none⟩ = some (.int .i64 0) := by rw [g0.i64 j (by omega), h1]
        have g0' := g0.set j (.int .i64 x)
        rw [hset x h2.symm] at g0'
        have g1' := g1.other ⟨w.heap.size + 1, j, none⟩ (.int .i64 x) (by simp)
        have gB' := gB.setCell (p := ⟨w.heap.size + 1, j, none⟩) (by simp) (.int .i64 x)
        have r1 : (k : Int) % 2 = 0 := by omega
        have o1 := or_zero hxb.1 hxb.2
        have H0 : Hid _ := g0'.drew
        have H1 : Hid _ := g1'.drew
        have HB : Hid _ := gB'.drew
        clear g0' g1' gB' g0 g1 gB hx hset h1 h2 hpar hcell hPl hj
        go_wp2
        go_region
        clear hck cz hfz
        go_wp2
        go_roundw
        case rel => exact ⟨k + 1, by omega, by go_num, H0.out, H1.out, HB.out⟩
        case measure => simp [intOf]; omega
      · obtain ⟨h1, h2⟩ := rdP_odd bs k j (by omega) hlt
        obtain ⟨y, hy⟩ : ∃ y, y = bs.getD (2 * j) 0 := ⟨_, rfl⟩
        have hyb := HU8.out (2 * j)
        rw [← hy] at hyb h1 h2
        rw [← hx] at h2
        have cz : wr.cell? ⟨w.heap.size + 1, j, none⟩ = some (.int .i64 y) := by rw [g0.i64 j (by omega), h1]
        have g0' := g0.set j (.int .i64 (y + 256 * x))
        rw [hset _ h2.symm] at g0'
        have g1' := g1.other ⟨w.heap.size + 1, j, none⟩ (.int .i64 (y + 256 * x)) (by simp)
        have gB' := gB.setCell (p := ⟨w.heap.size + 1, j, none⟩) (by simp) (.int .i64 (y + 256 * x))
        have r1 : (k : Int) % 2 = 1 := by omega
        have o1 := or_high hxb.1 hxb.2 hyb.1 hyb.2
        have o2 : IntKind.i64.wrap (x * 256) = x * 256 := by rw [IntKind.wrap_i64]; omega
        have H0 : Hid _ := g0'.drew
        have H1 : Hid _ := g1'.drew
        have HB : Hid _ := gB'.drew
        clear g0' g1' gB' g0 g1 gB hx hy hset h1 h2 hpar hcell hPl hj
        go_wp2
        go_region
        clear hck cz hfz
        go_wp2
        go_roundw
        case rel => exact ⟨k + 1, by omega, by go_num, H0.out, H1.out, HB.out⟩
        case measure => simp [intOf]; omega
    · obtain rfl : k = 32 := by omega
      rw [rdP_end] at g0
      have hRl := rdL_len bs
      have hf : r = true := by rw [HRR.out]; unfold rdB; simp [hl]
      have hE : L = rdL bs := by rw [HLr.out, hf]; rfl
      obtain ⟨R, hR⟩ : ∃ R, R = rdL bs := ⟨_, rfl⟩
      rw [← hR] at g0 hRl hE
      have hix : (Tryz.prog.info? 65).map (·.size) = some (I64 R).toArray.size := by simpa [hRl] using infoL
      have h2 := g1.row (I64 R)
      have HB := setRow_below gB w.heap.size (I64 R).toArray (Nat.le_refl _)
      have HE : Hid _ := hE
      have HF : Hid _ := hf
      clear hcell hPl hE hR hf
      go_wp2_with (first
        | (refine wpList_load_row rfl 65 _ rfl (w.heap.size + 1) rfl 65 (I64 R).toArray (0, 0) _ g0 Tryz.underlying65 rfl hix ?_)
        | (refine wpList_store_row rfl 65 _ _ rfl w.heap.size (I64 R).toArray rfl rfl 65 _ g1 hix (by simp [hRl]) (by simp [Value.oneCell']) ?_))
      exact bodyPost_ret (results_row_tmp (v := .bool true) (cs := I64 R) rfl rfl rfl h2 Tryz.underlying65 rfl (by simpa [hRl] using infoL)) rfl ⟨by rw [HF.out, HE.out], HB⟩

theorem Bs.two (w : World) (x y : Int) (h0 : 0 ≤ x) (h1 : x < 256) (g0 : 0 ≤ y) (g1 : y < 256) : Bs (w.alloc (.cells #[.int .u8 x, .int .u8 y] 5)) (some ⟨w.heap.size, 0, none⟩) 2 2 [x, y] := by
  refine ⟨(fun h => by cases h), rfl, Nat.le_refl _, ?_, .inr ⟨w.heap.size, 0, rfl, by simp, ?_⟩⟩
  · intro z hz; simp at hz; omega
  · intro j hj
    have : j = 0 ∨ j = 1 := by omega
    rcases this with rfl | rfl <;> (rw [World.cell?_alloc_at _ _ _ _ rfl]; rfl)

set_option maxHeartbeats 2000000 in
theorem implBytes (l : List Int) (w : World) (hl : l.length = 16) (hm : Lm l) :
    Calls Tryz.prog 43 #[.agg (I64 l).toArray] w fun e w' => ∃ v, e = .returned v ∧ w'.ownsRow w.heap.size 5 1 v 32 (U8 (btL l)) ∧ Below w.heap.size w w' := by
  obtain ⟨C, hC⟩ : ∃ C : Array Value, C = Array.replicate 32 (.int .u8 0) := ⟨_, rfl⟩
  have hCs : C.size = 32 * 1 := by rw [hC]; simp
  obtain ⟨W, hW⟩ : ∃ W, W = w.alloc (.cells (I64 l).toArray 65) := ⟨_, rfl⟩
  have g0 : Arr W w.heap.size 65 (I64 l) := by rw [hW]; exact Arr.new w (I64 l) _
  have gB : Below w.heap.size w W := by rw [hW]; exact (Below.refl _ _).alloc (Nat.le_refl _) _
  have gs : W.heap.size = w.heap.size + 1 := by rw [hW]; simp
  obtain ⟨A, hA⟩ : ∃ A, A = (I64 l).toArray := ⟨_, rfl⟩
  rw [← hA] at hW ⊢
  have hil : (Tryz.prog.info? 65).map (·.size) = some (I64 l).toArray.size := by simpa [hl] using infoL
  have hmk : ∀ Z : World, (Instr.makeSlice 22 (.int .i64 0) (.int .i64 32)).run Tryz.prog Z = .ok (.slice (some ⟨Z.heap.size, 0, none⟩) 0 32) (Z.alloc (.cells C 5)) := by
    intro Z
    obtain ⟨i0, hi, hz0, hz1, hz2⟩ := info_parts Tryz.info5
    have := run_make (P := Tryz.prog) Z 22 5 i0 (.int .u8 0) Tryz.underlying22 hi hz0 .i64 .i64 0 32 (by omega) (by omega) (by rw [hz2]; omega) (by omega)
    rw [this, hz1, show madeCells (Value.int .u8 0).cells (Int.toNat 32 * 1) = C by rw [hC]; kernel_rfl]
    rfl
  have o0 : (W.alloc (.cells C 5)).ownsRow (w.heap.size + 1) 5 1 (.slice (some ⟨W.heap.size, 0, none⟩) 0 32) 0 (U8 (btL (l.take 0))) := by
    have := World.ownsRow_made (base := w.heap.size + 1) (e := 5) (size := 1) W C 32 (by omega) (by unfold maxLen; omega) hCs
    simpa [btL] using this
  have g1 : Arr (W.alloc (.cells C 5)) w.heap.size 65 (I64 l) := g0.alloc _
  have gB1 : Below w.heap.size w (W.alloc (.cells C 5)) := gB.alloc gB.size _
  have gs1 : w.heap.size + 1 ≤ (W.alloc (.cells C 5)).heap.size := by simp [gs]
  rw [gs] at o0
  have g1' := hW ▸ g1
  have HW : Hid _ := hW
  clear hA hC hCs g0 gB gs hW
  go_enter Tryz.func43, Tryz.ntmps43
  go_wp2_with (refine wpList_load_row rfl 65 _ rfl w.heap.size rfl 65 (I64 l).toArray (0, 0) _ g1' Tryz.underlying65 rfl hil ?_)
  rw [← HW.out]
  clear g1' HW hmk
  obtain ⟨V, hV⟩ : ∃ V, V = W.alloc (.cells C 5) := ⟨_, rfl⟩
  rw [← hV] at o0 g1 gB1 gs1 ⊢
  clear hV
  go_loopw [3, 8] (fun v i wr => ∃ k : Nat, k ≤ 16 ∧ i = .int .i64 k ∧ wr.ownsRow (w.heap.size + 1) 5 1 v (2 * k) (U8 (btL (l.take k))) ∧ Below w.heap.size w wr ∧ w.heap.size + 1 ≤ wr.heap.size) (fun _ i _ => 16 - (intOf i).toNat)
  case atStart => exact ⟨0, by omega, rfl, o0, gB1, gs1⟩
  case round =>
    clear o0 g1 gB1 gs1
    obtain ⟨k, hk, rfl, hown, gB, gs⟩ := hrel
    by_cases hlt : k < 16
    · have ix := fun w => index_arr Tryz.underlying65 Tryz.underlying3 infoL1 l hl k hlt w
      obtain ⟨x, hx⟩ : ∃ x, x = l.getD k 0 := ⟨_, rfl⟩
      rw [← hx] at ix
      have hxb := gD_lm hm k
      rw [← hx] at hxb
      obtain ⟨hx0, hx1⟩ := hxb
      have hnx := btL_snoc l k (by omega)
      rw [← hx] at hnx
      have HN : Hid _ := hnx
      clear hx hnx
      have s1 : IntKind.u8.wrap x = x % 256 := by rw [IntKind.wrap_u8]
      have s2 : IntKind.u8.wrap (x / 256) = x / 256 := by rw [IntKind.wrap_u8]; omega
      have hk16 : (k : Int) < 16 := by omega
      go_wp2_with (at_builtin; refine wpl_append_bs rfl _ _ rfl (w.heap.size + 1) _ (2 * k) (btL (l.take k)) rfl (some ⟨wr.heap.size, 0, none⟩) 2 2 [x % 256, x / 256] rfl (hown.alloc _) ?_ ?_ ?_ ?_)
      · exact Bs.two _ _ _ (by omega) (by omega) (by omega) (by omega)
      · omega
      · first | omega | (simp; omega)
      intro v' w' h1 h2 _
      have hbA : Below (w.heap.size + 1) wr w' := ((Below.refl _ _).alloc (by omega) _).grown h2 (by simp; omega) (fun j hj => (hown.lt j hj).1)
      have gB' := gB.trans (hbA.mono (by omega))
      have gs' := Nat.le_trans gs hbA.size
      have HR : Hid (w'.ownsRow (w.heap.size + 1) 5 1 v' (2 * (k + 1)) (U8 (btL (l.take (k + 1))))) := by
        unfold Hid
        rw [HN.out, show 2 * (k + 1) = 2 * k + 2 by omega]; simpa using h1
      clear h1 h2 hown gB hbA HN ix
      go_wp2
      go_roundw
      case rel => exact ⟨k + 1, by omega, by go_num, HR.out, gB', gs'⟩
      case measure => simp [intOf]; omega
    · obtain rfl : k = 16 := by omega
      rw [List.take_of_length_le (by omega)] at hown
      have HO : Hid _ := own_base hown (show w.heap.size ≤ w.heap.size + 1 by omega)
      clear hown
      go_wp2
      go_ret
      exact ⟨_, rfl, HO.out, gB⟩
end Go.Proofs.YtihoaakbkffejaaGreatDoor

/-
  What is proved here: the contract of the program's PtNeg; where its variables hold the prime and d.
-/
import Derived.Test.YtihoaakbkffejaaGreatDoorSJio
import Derived.Test.YtihoaakbkffejaaGreatDoorSOm0
namespace Go.Proofs.YtihoaakbkffejaaGreatDoor
open Go.RowKit
set_option maxRecDepth 100000

set_option maxHeartbeats 8000000 in
theorem implPtNeg (a1 : Option Addr) (n1 c1 : Nat) (xs1 : List Int) (b1 : Option Addr) (m1 d1 : Nat) (ys1 : List Int) (w : World) (hx1 : Is w a1 n1 c1 xs1) (hy1 : Is w b1 m1 d1 ys1) (hV : Vr w 4 (I64 PL)) (hD : Vr w 5 (I64 DL)) :
    Calls Tryz.prog 127 #[.agg #[.slice a1 n1 c1, .slice b1 m1 d1]] w fun e w' => ∃ v, e = .returned (.tuple #[v, .bool (ptOk xs1 ys1)]) ∧ PtT 65 w w' v (ptx (ptOk xs1 ys1) (neg6 (mk6 xs1 ys1))) (pty (ptOk xs1 ys1) (neg6 (mk6 xs1 ys1))) ∧ Below w.heap.size w w' := by
  obtain ⟨p, hp⟩ : ∃ p, p = ptOk xs1 ys1 := ⟨_, rfl⟩
  obtain ⟨L, hL⟩ : ∃ l, l = opL xs1 ys1 := ⟨_, rfl⟩
  obtain ⟨P, hP⟩ : ∃ P, P = mk6 xs1 ys1 := ⟨_, rfl⟩
  have HO1 : Hid (∀ Z, Below w.heap.size w Z → Vr Z 4 (I64 PL) → Vr Z 5 (I64 DL) → Calls Tryz.prog 41 #[.agg #[.slice a1 n1 c1, .slice b1 m1 d1]] Z fun e w' => e = .returned (.tuple #[.agg (I64 L).toArray, .bool p]) ∧ Below Z.heap.size Z w') := by
    unfold Hid; intro Z hZ h1 h2; rw [hL, hp]; exact implPtOpen a1 n1 c1 xs1 b1 m1 d1 ys1 Z (hx1.below hZ) (hy1.below hZ) h1 h2
  have nL : L.length = 64 := by rw [hL]; exact opL_len _ _
  have iL : (Tryz.prog.info? 67).map (·.size) = some (I64 L).toArray.size := by simpa [nL] using infoLp
  have HLL : Hid (p = true → L = P.cells ∧ P.Ok) := by
    unfold Hid; intro h; rw [hp] at h; obtain ⟨k1, k2, _⟩ := (ptOk_iff _ _).1 h; rw [hL, hP]; unfold opL; rw [if_pos h]; exact ⟨rfl, mk6_ok k1 k2⟩
  obtain ⟨x, hx⟩ : ∃ x, x = flx (neg6 (mk6 xs1 ys1)) := ⟨_, rfl⟩
  obtain ⟨y, hy⟩ : ∃ y, y = fly (neg6 (mk6 xs1 ys1)) := ⟨_, rfl⟩
  have nx : x.length = 16 := by rw [hx]; exact red_len _
  have ny : y.length = 16 := by rw [hy]; exact red_len _
  obtain ⟨Lx, hLx⟩ : ∃ l, l = ptx (ptOk xs1 ys1) (neg6 (mk6 xs1 ys1)) := ⟨_, rfl⟩
  obtain ⟨Ly, hLy⟩ : ∃ l, l = pty (ptOk xs1 ys1) (neg6 (mk6 xs1 ys1)) := ⟨_, rfl⟩
  have HN : Hid ((p) = false → ∀ {w' : World}, PtT 65 w w' (.agg #[.slice none 0 0, .slice none 0 0]) Lx Ly) := by
    unfold Hid; intro h w'; rw [hp] at h; rw [hLx, hLy, h]; exact ptT_nil _ _ _
  have HY : Hid ((p) = true → ∀ (V V' : World) (v : Value), PtT 65 V V' v x y → PtT 65 V V' v Lx Ly) := by
    unfold Hid; intro h V V' v k; rw [hp] at h; rw [hLx, hLy, h]; unfold ptx pty; rw [if_pos rfl, if_pos rfl, ← hx, ← hy]; exact k
  have HX : Hid (p = true → x = red (val (lim 16 0) - val P.a) ∧ y = P.b) := by
    unfold Hid; intro h; rw [hp] at h; rw [hx, hy, hP]; exact neg_lists h
  rw [← hLx, ← hLy, ← hp]
  obtain ⟨W, hW⟩ : ∃ W, W = (w.alloc (.cells #[.slice a1 n1 c1, .slice b1 m1 d1] 33)).alloc (.cells #[.slice none 0 0, .slice none 0 0] 33) := ⟨_, rfl⟩
  have fr : Below w.heap.size w W := by rw [hW]; exact (((Below.refl _ _).alloc (Nat.le_refl _) _).alloc (by simp) _)
  have pa1 : Arr W w.heap.size 33 ([.slice a1 n1 c1, .slice b1 m1 d1]) := by
    rw [hW]
    have := (Arr.new (w) ([.slice a1 n1 c1, .slice b1 m1 d1]) 33).alloc (.cells #[.slice none 0 0, .slice none 0 0] 33)
    exact this
  have pr : Arr W (w.heap.size + 1) 33 ([.slice none 0 0, .slice none 0 0]) := by
    rw [hW]
    have := Arr.new (w.alloc (.cells #[.slice a1 n1 c1, .slice b1 m1 d1] 33)) ([.slice none 0 0, .slice none 0 0]) 33
    rw [World.size_alloc] at this
    exact this
  have h0P := hV.lt
  have vP := hV.kept fr
  have h0D := hD.lt
  have vD := hD.kept fr
  clear hV hD
  clear hx hy hLx hLy hp hL hP hx1 hy1
  go_enter Tryz.func127, Tryz.ntmps127
  go_upto_region 1 with fail
  rw [← hW]
  clear hW
  go_wp2_with (refine wpList_load_row rfl 33 _ rfl w.heap.size rfl 33 ([Value.slice a1 n1 c1,  Value.slice b1 m1 d1]).toArray (0, 0) _ pa1 Tryz.underlying33 rfl infoPt ?_)
  refine (HO1.out _ fr vP vD).mono ?_
  rintro e y1 ⟨rfl, hb1⟩
  replace fr := fr.trans (hb1.mono fr.size)
  replace pa1 := pa1.kept hb1
  replace pr := pr.kept hb1
  replace vP := vP.kept hb1
  replace vD := vD.kept hb1
  clear hb1
  have hXL : w.heap.size < y1.heap.size ∧ (w.heap.size + 1) < y1.heap.size ∧ w.heap.size ≤ y1.heap.size := ⟨pa1.lt, pr.lt, fr.size⟩
  obtain ⟨bV, AL, q1⟩ := laid_lp y1 L
  replace fr := fr.trans (bV.mono fr.size)
  replace pa1 := pa1.kept bV
  replace pr := pr.kept bV
  replace vP := vP.kept bV
  replace vD := vD.kept bV
  go_upto_region 2 with (refine wpList_store_row rfl 67 _ _ rfl y1.heap.size (I64 L).toArray rfl rfl 67 _ q1 iL (by simp [nL]) (by simp [Value.oneCell']) ?_)
  obtain ⟨V2, hVV⟩ : ∃ V, V = (y1.alloc (.cells #[.int .i64 0, .int .i64 0, .int .i64 0, .int .i64 0, .int .i64 0, .int .i64 0, .int .i64 0, .int .i64 0, .int .i64 0, .int .i64 0, .int .i64 0, .int .i64 0, .int .i64 0, .int .i64 0, .int .i64 0, .int .i64 0, .int .i64 0, .int .i64 0, .int .i64 0, .int .i64 0, .int .i64 0, .int .i64 0, .int .i64 0, .int .i64 0, .int .i64 0, .int .i64 0, .int .i64 0, .int .i64 0, .int .i64 0, .int .i64 0, .int .i64 0, .int .i64 0, .int .i64 0, .int .i64 0, .int .i64 0, .int .i64 0, .int .i64 0, .int .i64 0, .int .i64 0, .int .i64 0, .int .i64 0, .int .i64 0, .int .i64 0, .int .i64 0, .int .i64 0, .int .i64 0, .int .i64 0, .int .i64 0, .int .i64 0, .int .i64 0, .int .i64 0, .int .i64 0, .int .i64 0, .int .i64 0, .int .i64 0, .int .i64 0, .int .i64 0, .int .i64 0, .int .i64 0, .int .i64 0, .int .i64 0, .int .i64 0, .int .i64 0, .int .i64 0] 67)).setRow y1.heap.size (I64 L).toArray := ⟨_, rfl⟩
  obtain ⟨XL, hE⟩ : ∃ E, E = y1.heap.size := ⟨_, rfl⟩
  rw [← hVV] at fr pa1 pr vP vD AL ⊢
  rw [← hE] at AL hXL ⊢
  clear hVV hE q1 bV
  cases p with
  | false =>
    have h2 := pr.row ([.slice none 0 0, .slice none 0 0])
    have HB : Hid _ := setRow_below fr (w.heap.size + 1) ([.slice none 0 0, .slice none 0 0]).toArray (by omega)
    go_wp2_with (refine wpList_store_row rfl 33 _ _ rfl (w.heap.size + 1) ([Value.slice none 0 0,  Value.slice none 0 0]).toArray rfl rfl 33 _ pr infoPt rfl (by simp [Value.oneCell']) ?_)
    exact bodyPost_ret (results_row_tmp (v := .bool false) (cs := [.slice none 0 0, .slice none 0 0]) rfl rfl rfl h2 Tryz.underlying33 rfl infoPt) rfl ⟨_, rfl, HN.out (by simp), HB.out⟩
  | true =>
    obtain ⟨eL, hPo⟩ := HLL.out (by simp)
    subst eL
    have hip := infoLp' hPo
    obtain ⟨eX, eY⟩ := HX.out (by simp)
    have Ho : Hid (∀ Z, Vr Z 4 (I64 PL) → Calls Tryz.prog 103 #[.agg (I64 P.a).toArray] Z fun e w' => e = .returned (.agg (I64 x).toArray) ∧ Below Z.heap.size Z w') := by
      unfold Hid; intro Z hZ; rw [eX]; exact implOpposite P.a Z hPo.a hZ
    have Hq : Hid (∀ Z, Calls Tryz.prog 44 #[.agg (I64 x).toArray, .agg (I64 P.b).toArray] Z fun e w' => ∃ v, e = .returned v ∧ PtT 65 Z w' v x y ∧ Below Z.heap.size Z w') := by
      unfold Hid; intro Z; rw [← eY]; exact implPtOf x y Z nx ny
    have iPa := infoLl hPo.a
    have iPb := infoLl hPo.b
    have hu : Tryz.prog.underlying 65 = some (.array 16 3) := Tryz.underlying65
    clear eX eY HX
    go_upto_region 4 with fail
    try simp only [Act.put]
    have bD : Below V2.heap.size V2 V2.drew := (Below.refl _ _).drew
    replace fr := fr.trans (bD.mono fr.size)
    replace pa1 := pa1.kept bD
    replace pr := pr.kept bD
    replace vP := vP.kept bD
    replace vD := vD.kept bD
    replace AL := AL.kept bD
    clear bD
    refine wp_region_held_drew (S := fun W => W.rangeAt XL 0 (I64 P.a) ∧ W.rangeAt XL 16 (I64 P.b)) (by kernel_rfl) ⟨E4.ra AL, E4.rb hPo AL⟩ (fun hHeld => ?_)
    obtain ⟨D3, hD⟩ : ∃ V, V = V2.drew := ⟨_, rfl⟩
    rw [← hD] at hHeld fr pa1 pr vP vD AL ⊢
    clear hD
    refine wpAnyH_take (i := 0) (oi := { dst := some 14, op := Op.fieldAddr 67 (Operand.tmp 4) 0, type := 0, pos := "l06_point.go:72", after := #[], guard := none }) (v := .pointer (some ⟨XL, 0, none⟩)) rfl (by kernel_rfl) (by kernel_rfl) (by kernel_rfl) (fun _ _ _ h => h) (.inl ⟨by rfl, fun _ _ => by rfl⟩) (by assumption) ?_
    simp only [Act.put, List.setIfInBounds_toArray, List.set_cons_zero, List.set_cons_succ]
    refine wpAnyH_take (i := 1) (oi := { dst := some 15, op := Op.load 65 (Operand.tmp 14), type := 65, pos := "l06_point.go:72", after := #[{ on := 0, ground := Ground.data }], guard := none }) (v := _) rfl (by kernel_rfl) (by kernel_rfl) (by kernel_rfl) (fun _ _ _ h => h) (yieldsIf_load_mid (by rfl) _ _ rfl _ _ rfl (I64 P.a) _ (fun _ h => h.1) hu rfl iPa) (by assumption) ?_
    simp only [Act.put, List.setIfInBounds_toArray, List.set_cons_zero, List.set_cons_succ]
    refine wpAnyH_take (i := 3) (oi := { dst := some 17, op := Op.fieldAddr 67 (Operand.tmp 4) 1, type := 0, pos := "l06_point.go:72", after := #[], guard := none }) (v := .pointer (some ⟨XL, 16, none⟩)) rfl (by kernel_rfl) (by kernel_rfl) (by kernel_rfl) (fun _ _ _ h => h) (.inl ⟨by rfl, fun _ _ => by rfl⟩) (by assumption) ?_
    simp only [Act.put, List.setIfInBounds_toArray, List.set_cons_zero, List.set_cons_succ]
    refine wpAnyH_take (i := 4) (oi := { dst := some 18, op := Op.load 65 (Operand.tmp 17), type := 65, pos := "l06_point.go:72", after := #[{ on := 3, ground := Ground.data }], guard := none }) (v := _) rfl (by kernel_rfl) (by kernel_rfl) (by kernel_rfl) (fun _ _ _ h => h) (yieldsIf_load_mid (by rfl) _ _ rfl _ _ rfl (I64 P.b) _ (fun _ h => h.2) hu rfl iPb) (by assumption) ?_
    simp only [Act.put, List.setIfInBounds_toArray, List.set_cons_zero, List.set_cons_succ]
    refine wpAnyH_ready (rs := [2]) (by kernel_rfl) (by simp) (AllReadyH.cons (o := { dst := some 16, op := Op.call { callee := Callee.value (Operand.func 103), args := #[Operand.tmp 15], argTypes := #[65] }, type := 65, pos := "l06_point.go:72", after := #[{ on := 1, ground := Ground.data }], guard := none }) rfl (fun K hK => ?_) AllReadyH.nil)
    go_simp
    refine (Ho.out _ vP).mono ?_
    rintro e y4 ⟨rfl, hb4⟩
    replace fr := fr.trans (hb4.mono fr.size)
    replace pa1 := pa1.kept hb4
    replace pr := pr.kept hb4
    replace vP := vP.kept hb4
    replace vD := vD.kept hb4
    replace AL := AL.kept hb4
    clear hb4
    go_wp2_with fail
    refine hK.out _ _ ⟨E4.ra AL, E4.rb hPo AL⟩ (fun hHeld => ?_)
    clear hK K
    refine wpAnyH_ready (rs := [5]) (by kernel_rfl) (by simp) (AllReadyH.cons (o := { dst := some 19, op := Op.call { callee := Callee.value (Operand.func 44), args := #[Operand.tmp 16, Operand.tmp 18], argTypes := #[65, 65] }, type := 33, pos := "l06_point.go:72", after := #[{ on := 2, ground := Ground.data }, { on := 4, ground := Ground.data }, { on := 2, ground := Ground.chain }], guard := none }) rfl (fun K hK => ?_) AllReadyH.nil)
    go_simp
    have hl : w.heap.size + 1 < y4.heap.size := pr.lt
    refine (Hq.out _).mono ?_
    rintro e y5 ⟨v, rfl, hpt, hb5⟩
    replace fr := fr.trans (hb5.mono fr.size)
    replace pa1 := pa1.kept hb5
    replace pr := pr.kept hb5
    replace vP := vP.kept hb5
    replace vD := vD.kept hb5
    replace AL := AL.kept hb5
    clear hb5
    obtain ⟨aa, ca, ab, cb, rfl, oa, ob, hap⟩ := hpt
    rw [nx, ny] at hap ⊢
    rw [nx] at oa
    rw [ny] at ob
    have ia := In.of oa
    have ib := In.of ob
    go_wp2_with fail
    refine hK.out _ _ ⟨E4.ra AL, E4.rb hPo AL⟩ (fun hHeld => ?_)
    clear hK K
    refine wpAnyH_ready (rs := [6]) (by kernel_rfl) (by simp) (AllReadyH.cons (o := { dst := none, op := Op.store 33 (Operand.tmp 2) (Operand.tmp 19), type := 0, pos := "l06_point.go:72", after := #[{ on := 5, ground := Ground.data }, { on := 5, ground := Ground.chain }, { on := 0, ground := Ground.phase }, { on := 1, ground := Ground.phase }, { on := 2, ground := Ground.phase }, { on := 3, ground := Ground.phase }, { on := 4, ground := Ground.phase }, { on := 5, ground := Ground.phase }], guard := none }) rfl (fun K hK => ?_) AllReadyH.nil)
    rw [if_pos (by rfl)]
    refine wp_store_mid _ _ _ rfl _ _ ([.slice aa 16 ca, .slice ab 16 cb]).toArray rfl rfl (by have := arr_there pr; simpa using this) infoPt (all_oneCell_toArray (by simp [Value.oneCell'])) ?_
    simp only [Act.put]
    replace fr := bel_sc fr (w.heap.size + 1) ([.slice aa 16 ca, .slice ab 16 cb]) (by omega)
    replace pa1 := pa1.sc (w.heap.size + 1) ([.slice aa 16 ca, .slice ab 16 cb]) (by omega)
    replace pr := pr.sc0 ([.slice aa 16 ca, .slice ab 16 cb]) (by simp)
    replace vP := vP.sc (w.heap.size + 1) ([.slice aa 16 ca, .slice ab 16 cb]) (by omega)
    replace vD := vD.sc (w.heap.size + 1) ([.slice aa 16 ca, .slice ab 16 cb]) (by omega)
    replace AL := AL.sc (w.heap.size + 1) ([.slice aa 16 ca, .slice ab 16 cb]) (by omega)
    replace oa : (y5.setCells (w.heap.size + 1) 0 ([.slice aa 16 ca, .slice ab 16 cb])).ownsRow y4.heap.size 65 1 (.slice aa 16 ca) 16 (I64 x) := own_setCells oa ia (.inl hl) _
    replace ob : (y5.setCells (w.heap.size + 1) 0 ([.slice aa 16 ca, .slice ab 16 cb])).ownsRow y4.heap.size 65 1 (.slice ab 16 cb) 16 (I64 y) := own_setCells ob ib (.inl hl) _
    obtain ⟨V6, hVe⟩ : ∃ V, V = y5.setCells (w.heap.size + 1) 0 ([.slice aa 16 ca, .slice ab 16 cb]) := ⟨_, rfl⟩
    rw [← hVe] at fr pa1 pr vP vD AL oa ob ⊢
    clear hVe
    refine hK.out _ _ ⟨E4.ra AL, E4.rb hPo AL⟩ (fun hHeld => ?_)
    clear hK K
    refine wpAnyH_ready (rs := [7]) (by kernel_rfl) (by simp) (AllReadyH.cons (o := { dst := some 3, op := Op.assign (Operand.const (Value.bool true)), type := 4, pos := "l06_point.go:72", after := #[{ on := 6, ground := Ground.chain }, { on := 0, ground := Ground.phase }, { on := 1, ground := Ground.phase }, { on := 2, ground := Ground.phase }, { on := 3, ground := Ground.phase }, { on := 4, ground := Ground.phase }, { on := 5, ground := Ground.phase }, { on := 6, ground := Ground.phase }], guard := none }) rfl (fun K hK => ?_) AllReadyH.nil)
    go_simp
    refine hK.out _ _ ⟨E4.ra AL, E4.rb hPo AL⟩ (fun hHeld => ?_)
    clear hK K
    refine wpAnyH_done (by kernel_rfl) ?_ _
    go_wp2
    exact bodyPost_ret (results_row_tmp (v := .bool true) (cs := [.slice aa 16 ca, .slice ab 16 cb]) rfl rfl rfl pr Tryz.underlying33 rfl infoPt) rfl ⟨_, rfl, HY.out (by simp) _ _ _ (ptT_16 nx ny (own_base oa (by omega)) (own_base ob (by omega)) hap), fr⟩

end Go.Proofs.YtihoaakbkffejaaGreatDoor

/-
  What is proved here: the contract of the program's ScWide: 64 bytes come to their number modulo; a value that comes up alone in a region that draws its order, its place; the contract of the program's secretOf; the contract of the program's PubOf; the contract of the library's slices.Concat at three slices of at most.
-/
import Derived.Test.YtihoaakbkffejaaGreatDoorFQd
import Derived.Test.YtihoaakbkffejaaGreatDoorFGkw
import Derived.Test.YtihoaakbkffejaaGreatDoorFKe
import Derived.Deep.CutRange
import Derived.Test.YtihoaakbkffejaaGreatDoorFTm
import Derived.Test.YtihoaakbkffejaaGreatDoorFVr
namespace Go.Proofs.YtihoaakbkffejaaGreatDoor
open Go.RowKit
set_option maxRecDepth 100000
abbrev qQk0 : Oper := { dst := none, op := Op.store 92 (Operand.tmp 8) (Operand.tmp 31), type := 0, pos := "l05_scalar.go:47", after := #[{ on := 7, ground := Ground.data }, { on := 6, ground := Ground.data }, { on := 6, ground := Ground.chain }, { on := 0, ground := Ground.phase }, { on := 1, ground := Ground.phase }, { on := 2, ground := Ground.phase }, { on := 3, ground := Ground.phase }, { on := 4, ground := Ground.phase }, { on := 5, ground := Ground.phase }, { on := 6, ground := Ground.phase }, { on := 7, ground := Ground.phase }], guard := none }

theorem wd_cat (bs : List Int) : rdL (bs.take 32) ++ rdL (bs.drop 32) = wdL bs := by
 refine ext32 (n := 32) (by simp [rdL_len]) (wdL_len _) fun i hi => ?_
 rw [wdL_get _ _ hi]
 by_cases h1 : i < 16
 ·have e0 : (rdL (bs.take 32) ++ rdL (bs.drop 32)).getD i 0 = (rdL (bs.take 32)).getD i 0 := by
   rw [List.getD, List.getD, List.getElem?_append_left (by rw [rdL_len]; exact h1)]
  rw [e0, rdL_get _ _ h1]
  have t : ∀ j, j < 32 → (bs.take 32).getD j 0 = bs.getD j 0 := fun j hj => by rw [List.getD, List.getD, List.getElem?_take]; simp [hj]
  rw [t _ (by omega), t _ (by omega)]
 ·have e0 : (rdL (bs.take 32) ++ rdL (bs.drop 32)).getD i 0 = (rdL (bs.drop 32)).getD (i - 16) 0 := by
   rw [List.getD, List.getD, List.getElem?_append_right (by rw [rdL_len]; omega), rdL_len]
  rw [e0, rdL_get _ _ (by omega)]
  have t : ∀ j, (bs.drop 32).getD j 0 = bs.getD (32 + j) 0 := fun j => by rw [List.getD, List.getD, List.getElem?_drop]
  rw [t, t, show 32 + 2 * (i - 16) = 2 * i by omega, show 32 + (2 * (i - 16) + 1) = 2 * i + 1 by omega]
theorem rdZ_of {bs : List Int} (h : bs.length = 32) : rdZ bs = rdL bs ∧ rdB bs = true := by
 have : rdB bs = true := by unfold rdB; simp [h]
 exact ⟨by unfold rdZ; rw [if_pos this], this⟩

structure Hv (w W : World) (E F : Nat) (L H : List Int) : Prop where
 fr : Below w.heap.size w W
 pr : Arr W w.heap.size 41 [.slice none 0 0]
 p1 : Arr W E 65 (I64 L)
 p2 : Arr W F 65 (I64 H)
 vr : Vr W 6 (I64 OL)
theorem Hv.go {w A B : World} {E F : Nat} {L H : List Int} (h : Hv w A E F L H) (hb : Below A.heap.size A B) : Hv w B E F L H := ⟨h.fr.trans (hb.mono h.fr.size), h.pr.kept hb, h.p1.kept hb, h.p2.kept hb, h.vr.kept hb⟩
theorem Hv.all {w W : World} {E F : Nat} {L H : List Int} (h : Hv w W E F L H) : W.rangeAt E 0 (I64 L) ∧ W.rangeAt F 0 (I64 H) := ⟨arr_range h.p1, arr_range h.p2⟩

set_option maxHeartbeats 4000000 in
theorem implScWide (a : Option Addr) (n c : Nat) (bs : List Int) (w : World) (hx : Bs w a n c bs) (hV : Vr w 6 (I64 OL)) :
  Calls Tryz.prog 17 #[.slice a n c] w fun e w' => ∃ v, e = .returned (.tuple #[v, .bool (wdOk bs)]) ∧ FeT 65 w w' v (wdF bs) ∧ Below w.heap.size w w' := by
 have hbl := hx.2.1
 have h0w := hV.lt
 obtain ⟨W, hW⟩ : ∃ W, W = w.alloc (.cells #[.slice none 0 0] 41) := ⟨_, rfl⟩
 have hfr : Below w.heap.size w W := by rw [hW]; exact (Below.refl _ _).alloc (Nat.le_refl _) _
 have hpr : Arr W w.heap.size 41 [.slice none 0 0] := by rw [hW]; exact Arr.new _ _ _
 by_cases hn : n = 64
 ·subst hn
  have e1 : wdOk bs = true := by unfold wdOk; simp [hbl]
  have e2 : wdF bs = redO (val (wdL bs)) := by unfold wdF; rw [e1]; rfl
  rw [e1, e2]
  obtain ⟨R, hR⟩ : ∃ R, R = redO (val (wdL bs)) := ⟨_, rfl⟩
  have hRl : R.length = 16 := by rw [hR]; exact redO_len _
  rw [← hR]
  have hcap := hx.2.2.1
  have hby := hx.2.2.2.1
  obtain ⟨b, o, ha⟩ : ∃ b o, a = some ⟨b, o, none⟩ := by
   rcases hx.2.2.2.2 with h | ⟨b, o, h, _⟩
   ·omega
   ·exact ⟨b, o, h⟩
  subst ha
  have hx1 := hx.take (m := 32) (by omega)
  have hx2 := hx.drop (m := 32) (by omega)
  have hl1 : (bs.take 32).length = 32 := by simp [hbl]
  have hl2 : (bs.drop 32).length = 32 := by simp [hbl]
  have hb1 : ∀ x ∈ bs.take 32, 0 ≤ x ∧ x < 256 := fun x h => hby x (List.mem_of_mem_take h)
  have hb2 : ∀ x ∈ bs.drop 32, 0 ≤ x ∧ x < 256 := fun x h => hby x (List.mem_of_mem_drop h)
  have m1 := rdL_lm hb1
  have m2 := rdL_lm hb2
  have hcat := wd_cat bs
  obtain ⟨L, hL⟩ : ∃ L, L = rdL (bs.take 32) := ⟨_, rfl⟩
  obtain ⟨H, hH⟩ : ∃ H, H = rdL (bs.drop 32) := ⟨_, rfl⟩
  have HR1 : Hid (∀ Z, Below w.heap.size w Z → Calls Tryz.prog 56 #[.slice (some ⟨b, o, none⟩) 32 c] Z fun e w' => e = .returned (.tuple #[.agg (I64 L).toArray, .bool true]) ∧ Below Z.heap.size Z w') := by
   unfold Hid; intro Z hZ
   have := implLimbsRead _ _ _ _ Z (hx1.below hZ)
   rw [(rdZ_of hl1).1, (rdZ_of hl1).2, ← hL] at this
   exact this
  have HR2 : Hid (∀ Z, Below w.heap.size w Z → Calls Tryz.prog 56 #[.slice (some ⟨b, o + 32, none⟩) 32 (c - 32)] Z fun e w' => e = .returned (.tuple #[.agg (I64 H).toArray, .bool true]) ∧ Below Z.heap.size Z w') := by
   unfold Hid; intro Z hZ
   have := implLimbsRead _ _ _ _ Z (hx2.below hZ)
   rw [(rdZ_of hl2).1, (rdZ_of hl2).2, ← hH] at this
   exact this
  rw [← hL] at m1 hcat
  rw [← hH] at m2 hcat
  have hLl : L.length = 16 := by rw [hL]; exact rdL_len _
  have hHl : H.length = 16 := by rw [hH]; exact rdL_len _
  have iL : ∀ x ∈ L, -9223372036854775808 ≤ x ∧ x ≤ 9223372036854775807 := fun x h => by have := m1 x h; omega
  have iH : ∀ x ∈ H, -9223372036854775808 ≤ x ∧ x ≤ 9223372036854775807 := fun x h => by have := m2 x h; omega
  have iLH : ∀ x ∈ L ++ H, -9223372036854775808 ≤ x ∧ x ≤ 9223372036854775807 := fun x h => (List.mem_append.1 h).elim (iL x) (iH x)
  have HCO : Hid (∀ (a : Option Addr) (c : Nat) (Z : World), Is Z a 32 c (L ++ H) → Vr Z 6 (I64 OL) → Calls Tryz.prog 60 #[.slice a 32 c] Z fun e w' => e = .returned (.agg (I64 R).toArray) ∧ Below Z.heap.size Z w') := by
   unfold Hid; intro a c Z h1 h2
   have := implColumns a 32 c (L ++ H) Z h1 (by omega) (by omega) (fun x h => (List.mem_append.1 h).elim (lm_cq m1 x) (lm_cq m2 x)) h2
   rw [hcat, ← hR] at this
   exact this
  have HIL : Hid _ := iL
  have HIH : Hid _ := iH
  have HIC : Hid _ := iLH
  have hil : (Tryz.prog.info? 65).map (·.size) = some (I64 L).toArray.size := by simpa [hLl] using infoL
  have hih : (Tryz.prog.info? 65).map (·.size) = some (I64 H).toArray.size := by simpa [hHl] using infoL
  have hill : (Tryz.prog.info? 65).map (·.size) = some (I64 L).length := by simpa [hLl] using infoL
  have hihl : (Tryz.prog.info? 65).map (·.size) = some (I64 H).length := by simpa [hHl] using infoL
  have hir : (Tryz.prog.info? 92).map (·.size) = some (I64 R).toArray.size := by simpa [hRl] using infoM
  have hirl : (Tryz.prog.info? 65).map (·.size) = some (I64 R).toArray.size := by simpa [hRl] using infoL
  have hvr := hV.kept hfr
  have k1 : (32 : Int) ≤ (c : Int) := by omega
  have k2 : ¬ (c = 0) := by omega
  have k3 : ¬ (c = 32) := by omega
  clear hbl e1 e2 hR hby hx1 hx2 hl1 hl2 hb1 hb2 m1 m2 hcat hL hH iL iH iLH hx hV hcap
  go_enter Tryz.func17, Tryz.ntmps17
  go_wp2_with fail
  rw [← hW]
  refine (HR1.out _ hfr).mono ?_
  rintro e w1 ⟨rfl, b1⟩
  replace hpr := hpr.kept b1
  replace hvr := hvr.kept b1
  replace hfr := hfr.trans (b1.mono hfr.size)
  obtain ⟨bV, pL, q1⟩ := laid_new w1 L
  have hlt1 := hpr.lt
  replace hpr := hpr.kept bV
  replace hvr := hvr.kept bV
  replace hfr := hfr.trans (bV.mono hfr.size)
  clear hW b1 bV HR1
  go_wp2_with (refine wpList_store_row rfl 65 _ _ rfl w1.heap.size (I64 L).toArray rfl rfl 65 _ q1 hil (by simp [hLl]) (by simp [Value.oneCell']) ?_)
  obtain ⟨V, hVV⟩ : ∃ V, V = (w1.alloc (.cells zV 65)).setRow w1.heap.size (I64 L).toArray := ⟨_, rfl⟩
  obtain ⟨E, hE⟩ : ∃ E, E = w1.heap.size := ⟨_, rfl⟩
  rw [← hVV] at hpr hvr hfr pL ⊢
  rw [← hE] at pL hlt1 ⊢
  clear hVV hE q1
  refine (HR2.out _ hfr).mono ?_
  rintro e w2 ⟨rfl, b2⟩
  replace hpr := hpr.kept b2
  replace hvr := hvr.kept b2
  replace pL := pL.kept b2
  replace hfr := hfr.trans (b2.mono hfr.size)
  obtain ⟨bV, pH, q2⟩ := laid_new w2 H
  have hlt2 := pL.lt
  replace hpr := hpr.kept bV
  replace hvr := hvr.kept bV
  replace pL := pL.kept bV
  replace hfr := hfr.trans (bV.mono hfr.size)
  clear b2 bV HR2 k1 k2 k3
  go_wp2_with (refine wpList_store_row rfl 65 _ _ rfl w2.heap.size (I64 H).toArray rfl rfl 65 _ q2 hih (by simp [hHl]) (by simp [Value.oneCell']) ?_)
  obtain ⟨V2, hVV⟩ : ∃ V, V = (w2.alloc (.cells zV 65)).setRow w2.heap.size (I64 H).toArray := ⟨_, rfl⟩
  obtain ⟨F, hF⟩ : ∃ F, F = w2.heap.size := ⟨_, rfl⟩
  rw [← hVV] at hpr hvr hfr pL pH ⊢
  rw [← hF] at pH hlt2 ⊢
  clear hVV hF q2
  have E0 : Hv w V2 E F L H := ⟨hfr, hpr, pL, pH, hvr⟩
  clear hfr hpr pL pH hvr
  go_cut [8] from 9 (fun s8 wc => ∃ G : Nat, s8 = .pointer (some ⟨G, 0, none⟩) ∧ Arr wc G 92 (I64 R) ∧ Hv w wc E F L H)
  case first =>
   have EE := E0.go (Below.refl _ _).drew
   refine wp_region_held_drew (S := fun W => W.rangeAt E 0 (I64 L) ∧ W.rangeAt F 0 (I64 H)) (by kernel_rfl) EE.all (fun hHeld => ?_)
   obtain ⟨wD, hD⟩ : ∃ V, V = V2.drew := ⟨_, rfl⟩
   rw [← hD] at hHeld EE ⊢
   clear hD E0
   have hu : Tryz.prog.underlying 65 = some (.array 16 3) := Tryz.underlying65
   have hone := one_lm R
   refine wpAnyH_take (i := 0) (oi := { dst := some 25, op := Op.load 65 (Operand.tmp 4), type := 65, pos := "l05_scalar.go:47", after := #[], guard := none }) (v := _) rfl (by kernel_rfl) (by kernel_rfl) (by kernel_rfl) (fun _ _ _ h => h) (yieldsIf_load_mid (by rfl) _ _ rfl _ _ rfl (I64 L) _ (fun _ h => h.1) hu rfl hill) (by assumption) ?_
   simp only [aP]
   refine wpAnyH_take (i := 2) (oi := { dst := some 27, op := Op.load 65 (Operand.tmp 6), type := 65, pos := "l05_scalar.go:47", after := #[], guard := none }) (v := _) rfl (by kernel_rfl) (by kernel_rfl) (by kernel_rfl) (fun _ _ _ h => h) (yieldsIf_load_mid (by rfl) _ _ rfl _ _ rfl (I64 H) _ (fun _ h => h.2) hu rfl hihl) (by assumption) ?_
   simp only [aP]
   refine wpAnyH_ready (rs := [1, 7]) (by kernel_rfl) (by simp) (AllReadyH.cons (o := { dst := some 26, op := Op.call { callee := Callee.value (Operand.func 59), args := #[Operand.tmp 25], argTypes := #[65] }, type := 29, pos := "l05_scalar.go:47", after := #[{ on := 0, ground := Ground.data }], guard := none }) rfl (fun K hK => ?_) (AllReadyH.cons (o := { dst := some 8, op := Op.alloc 92, type := 0, pos := "l05_scalar.go:47", after := #[], guard := none }) rfl (fun K hK => ?_) AllReadyH.nil))
   ·skip
    go_simp
    refine (implList L _ hLl).mono ?_
    rintro e x1 ⟨a1, c1, rfl, o1, hb1⟩
    replace EE := EE.go hb1
    have i1 := is_of_own o1 HIL.out
    clear o1 hb1
    go_wp2_with fail
    refine hK.out _ _ EE.all (fun hHeld => ?_)
    clear hK K
    refine wpAnyH_ready (rs := [3, 7]) (by kernel_rfl) (by simp) (AllReadyH.cons (o := { dst := some 28, op := Op.call { callee := Callee.value (Operand.func 59), args := #[Operand.tmp 27], argTypes := #[65] }, type := 29, pos := "l05_scalar.go:47", after := #[{ on := 2, ground := Ground.data }, { on := 1, ground := Ground.chain }], guard := none }) rfl (fun K hK => ?_) (AllReadyH.cons (o := { dst := some 8, op := Op.alloc 92, type := 0, pos := "l05_scalar.go:47", after := #[], guard := none }) rfl (fun K hK => ?_) AllReadyH.nil))
    ·skip
     go_simp
     refine (implList H _ hHl).mono ?_
     rintro e x2 ⟨a2, c2, rfl, o2, hb2⟩
     replace EE := EE.go hb2
     replace i1 := i1.below hb2
     have i2 := is_of_own o2 HIH.out
     clear o2 hb2
     go_wp2_with fail
     refine hK.out _ _ EE.all (fun hHeld => ?_)
     clear hK K
     refine wpAnyH_ready (rs := [4, 7]) (by kernel_rfl) (by simp) (AllReadyH.cons (o := { dst := some 29, op := Op.buildSlice 155 2 #[(0, Operand.tmp 26), (1, Operand.tmp 28)], type := 155, pos := "l05_scalar.go:47", after := #[{ on := 1, ground := Ground.data }, { on := 3, ground := Ground.data }], guard := none }) rfl (fun K hK => ?_) (AllReadyH.cons (o := { dst := some 8, op := Op.alloc 92, type := 0, pos := "l05_scalar.go:47", after := #[], guard := none }) rfl (fun K hK => ?_) AllReadyH.nil))
     ·skip
      go_simp
      obtain ⟨x3, hVe⟩ : ∃ V, V = x2.alloc (.cells #[.slice a1 16 c1, .slice a2 16 c2] 29) := ⟨_, rfl⟩
      have hb3 : Below x2.heap.size x2 x3 := by rw [hVe]; exact (Below.refl _ _).alloc (Nat.le_refl _) _
      have AG : Arr x3 x2.heap.size 29 [.slice a1 16 c1, .slice a2 16 c2] := by rw [hVe]; exact Arr.new _ _ _
      obtain ⟨G, hG⟩ : ∃ G, G = x2.heap.size := ⟨_, rfl⟩
      replace EE := EE.go hb3
      replace i1 := i1.below hb3
      replace i2 := i2.below hb3
      rw [← hG] at AG ⊢
      rw [← hVe]
      clear hVe hG hb3
      refine hK.out _ _ EE.all (fun hHeld => ?_)
      clear hK K
      refine wpAnyH_ready (rs := [5, 7]) (by kernel_rfl) (by simp) (AllReadyH.cons (o := { dst := some 30, op := Op.call { callee := Callee.value (Operand.func 61), args := #[Operand.tmp 29], argTypes := #[155] }, type := 29, pos := "l05_scalar.go:47", after := #[{ on := 4, ground := Ground.data }, { on := 3, ground := Ground.chain }], guard := none }) rfl (fun K hK => ?_) (AllReadyH.cons (o := { dst := some 8, op := Op.alloc 92, type := 0, pos := "l05_scalar.go:47", after := #[], guard := none }) rfl (fun K hK => ?_) AllReadyH.nil))
      ·skip
       go_simp
       refine (concat2I G a1 a2 16 c1 16 c2 L H _ AG.lt (AG.cell 0) (AG.cell 1) i1 i2 (by omega) (by omega)).mono ?_
       rintro e x4 ⟨v3, rfl, o3, hb4⟩
       clear i1 i2 AG
       replace EE := EE.go hb4
       obtain ⟨a3, c3, rfl, _, i3⟩ := Is.own o3 HIC.out
       clear o3 hb4
       go_wp2_with fail
       refine hK.out _ _ EE.all (fun hHeld => ?_)
       clear hK K
       refine wpAnyH_ready (rs := [6, 7]) (by kernel_rfl) (by simp) (AllReadyH.cons (o := { dst := some 31, op := Op.call { callee := Callee.value (Operand.func 60), args := #[Operand.tmp 30], argTypes := #[29] }, type := 92, pos := "l05_scalar.go:47", after := #[{ on := 5, ground := Ground.data }, { on := 5, ground := Ground.chain }], guard := none }) rfl (fun K hK => ?_) (AllReadyH.cons (o := { dst := some 8, op := Op.alloc 92, type := 0, pos := "l05_scalar.go:47", after := #[], guard := none }) rfl (fun K hK => ?_) AllReadyH.nil))
       ·skip
        go_simp
        refine (HCO.out a3 c3 _ i3 EE.vr).mono ?_
        rintro e x5 ⟨rfl, hb5⟩
        clear i3
        replace EE := EE.go hb5
        clear hb5
        go_wp2_with fail
        refine hK.out _ _ EE.all (fun hHeld => ?_)
        clear hK K
        refine wpAnyH_ready (rs := [7]) (by kernel_rfl) (by simp) (AllReadyH.cons (o := { dst := some 8, op := Op.alloc 92, type := 0, pos := "l05_scalar.go:47", after := #[], guard := none }) rfl (fun K hK => ?_) AllReadyH.nil)
        go_simp
        obtain ⟨x6, hVe⟩ : ∃ V, V = x5.alloc (.cells zV 92) := ⟨_, rfl⟩
        have hb6 : Below x5.heap.size x5 x6 := by rw [hVe]; exact (Below.refl _ _).alloc (Nat.le_refl _) _
        have AE : Arr x6 x5.heap.size 92 (I64 Z16) := by rw [hVe]; exact Arr.new _ (I64 Z16) _
        have hX : F < x5.heap.size ∧ w.heap.size < x5.heap.size ∧ E < x5.heap.size := ⟨EE.p2.lt, EE.pr.lt, EE.p1.lt⟩
        obtain ⟨X, hXe⟩ : ∃ X, X = x5.heap.size := ⟨_, rfl⟩
        replace EE := EE.go hb6
        rw [← hVe]
        rw [← hXe] at AE hX ⊢
        clear hVe hXe hb6
        refine hK.out _ _ EE.all (fun hHeld => ?_)
        clear hK K
        refine wpAnyH_ready (rs := [8]) (by kernel_rfl) (by simp) (AllReadyH.cons (o := qQk0) rfl (fun K hK => ?_) AllReadyH.nil)
        rw [if_pos (by rfl)]
        refine wp_store_mid _ _ _ rfl _ _ (I64 R).toArray rfl rfl (by have := arr_there AE; simpa [hRl] using this) hir (all_oneCell_toArray hone) ?_
        simp only [Act.put]
        have EF : Hv w (x6.setCells X 0 (I64 R)) E F L H := ⟨setCells_below (by omega) _ _ EE.fr, Arr.setCellsO (by omega) _ _ EE.pr, Arr.setCellsO (by omega) _ _ EE.p1, Arr.setCellsO (by omega) _ _ EE.p2, Vr.setCellsO (by omega) EE.vr⟩
        have AF : Arr (x6.setCells X 0 (I64 R)) X 92 (I64 R) := Arr.setCells0 AE (by simp [hRl])
        refine hK.out _ _ EF.all (fun hHeld => ?_)
        clear hK K
        refine wpAnyH_done (by kernel_rfl) ?_ _
        go_wp2
        go_meet
        case rel => exact ⟨X, rfl, AF, EF⟩
       ·skip
        go_simp
        obtain ⟨x5, hVe⟩ : ∃ V, V = x4.alloc (.cells zV 92) := ⟨_, rfl⟩
        have hb5 : Below x4.heap.size x4 x5 := by rw [hVe]; exact (Below.refl _ _).alloc (Nat.le_refl _) _
        have AE : Arr x5 x4.heap.size 92 (I64 Z16) := by rw [hVe]; exact Arr.new _ (I64 Z16) _
        have hX : F < x4.heap.size ∧ w.heap.size < x4.heap.size ∧ E < x4.heap.size := ⟨EE.p2.lt, EE.pr.lt, EE.p1.lt⟩
        obtain ⟨X, hXe⟩ : ∃ X, X = x4.heap.size := ⟨_, rfl⟩
        replace EE := EE.go hb5
        replace i3 := i3.below hb5
        rw [← hVe]
        rw [← hXe] at AE hX ⊢
        clear hVe hXe hb5
        refine hK.out _ _ EE.all (fun hHeld => ?_)
        clear hK K
        refine wpAnyH_ready (rs := [6]) (by kernel_rfl) (by simp) (AllReadyH.cons (o := { dst := some 31, op := Op.call { callee := Callee.value (Operand.func 60), args := #[Operand.tmp 30], argTypes := #[29] }, type := 92, pos := "l05_scalar.go:47", after := #[{ on := 5, ground := Ground.data }, { on := 5, ground := Ground.chain }], guard := none }) rfl (fun K hK => ?_) AllReadyH.nil)
        go_simp
        refine (HCO.out a3 c3 _ i3 EE.vr).mono ?_
        rintro e x6 ⟨rfl, hb6⟩
        clear i3
        replace EE := EE.go hb6
        replace AE := AE.kept hb6
        clear hb6
        go_wp2_with fail
        refine hK.out _ _ EE.all (fun hHeld => ?_)
        clear hK K
        refine wpAnyH_ready (rs := [8]) (by kernel_rfl) (by simp) (AllReadyH.cons (o := qQk0) rfl (fun K hK => ?_) AllReadyH.nil)
        rw [if_pos (by rfl)]
        refine wp_store_mid _ _ _ rfl _ _ (I64 R).toArray rfl rfl (by have := arr_there AE; simpa [hRl] using this) hir (all_oneCell_toArray hone) ?_
        simp only [Act.put]
        have EF : Hv w (x6.setCells X 0 (I64 R)) E F L H := ⟨setCells_below (by omega) _ _ EE.fr, Arr.setCellsO (by omega) _ _ EE.pr, Arr.setCellsO (by omega) _ _ EE.p1, Arr.setCellsO (by omega) _ _ EE.p2, Vr.setCellsO (by omega) EE.vr⟩
        have AF : Arr (x6.setCells X 0 (I64 R)) X 92 (I64 R) := Arr.setCells0 AE (by simp [hRl])
        refine hK.out _ _ EF.all (fun hHeld => ?_)
        clear hK K
        refine wpAnyH_done (by kernel_rfl) ?_ _
        go_wp2
        go_meet
        case rel => exact ⟨X, rfl, AF, EF⟩
      ·skip
       go_simp
       obtain ⟨x4, hVe⟩ : ∃ V, V = x3.alloc (.cells zV 92) := ⟨_, rfl⟩
       have hb4 : Below x3.heap.size x3 x4 := by rw [hVe]; exact (Below.refl _ _).alloc (Nat.le_refl _) _
       have AE : Arr x4 x3.heap.size 92 (I64 Z16) := by rw [hVe]; exact Arr.new _ (I64 Z16) _
       have hX : F < x3.heap.size ∧ w.heap.size < x3.heap.size ∧ E < x3.heap.size := ⟨EE.p2.lt, EE.pr.lt, EE.p1.lt⟩
       obtain ⟨X, hXe⟩ : ∃ X, X = x3.heap.size := ⟨_, rfl⟩
       replace EE := EE.go hb4
       replace i1 := i1.below hb4
       replace i2 := i2.below hb4
       replace AG := AG.kept hb4
       rw [← hVe]
       rw [← hXe] at AE hX ⊢
       clear hVe hXe hb4
       refine hK.out _ _ EE.all (fun hHeld => ?_)
       clear hK K
       refine wpAnyH_ready (rs := [5]) (by kernel_rfl) (by simp) (AllReadyH.cons (o := { dst := some 30, op := Op.call { callee := Callee.value (Operand.func 61), args := #[Operand.tmp 29], argTypes := #[155] }, type := 29, pos := "l05_scalar.go:47", after := #[{ on := 4, ground := Ground.data }, { on := 3, ground := Ground.chain }], guard := none }) rfl (fun K hK => ?_) AllReadyH.nil)
       go_simp
       refine (concat2I G a1 a2 16 c1 16 c2 L H _ AG.lt (AG.cell 0) (AG.cell 1) i1 i2 (by omega) (by omega)).mono ?_
       rintro e x5 ⟨v3, rfl, o3, hb5⟩
       clear i1 i2 AG
       replace EE := EE.go hb5
       replace AE := AE.kept hb5
       obtain ⟨a3, c3, rfl, _, i3⟩ := Is.own o3 HIC.out
       clear o3 hb5
       go_wp2_with fail
       refine hK.out _ _ EE.all (fun hHeld => ?_)
       clear hK K
       refine wpAnyH_ready (rs := [6]) (by kernel_rfl) (by simp) (AllReadyH.cons (o := { dst := some 31, op := Op.call { callee := Callee.value (Operand.func 60), args := #[Operand.tmp 30], argTypes := #[29] }, type := 92, pos := "l05_scalar.go:47", after := #[{ on := 5, ground := Ground.data }, { on := 5, ground := Ground.chain }], guard := none }) rfl (fun K hK => ?_) AllReadyH.nil)
       go_simp
       refine (HCO.out a3 c3 _ i3 EE.vr).mono ?_
       rintro e x6 ⟨rfl, hb6⟩
       clear i3
       replace EE := EE.go hb6
       replace AE := AE.kept hb6
       clear hb6
       go_wp2_with fail
       refine hK.out _ _ EE.all (fun hHeld => ?_)
       clear hK K
       refine wpAnyH_ready (rs := [8]) (by kernel_rfl) (by simp) (AllReadyH.cons (o := qQk0) rfl (fun K hK => ?_) AllReadyH.nil)
       rw [if_pos (by rfl)]
       refine wp_store_mid _ _ _ rfl _ _ (I64 R).toArray rfl rfl (by have := arr_there AE; simpa [hRl] using this) hir (all_oneCell_toArray hone) ?_
       simp only [Act.put]
       have EF : Hv w (x6.setCells X 0 (I64 R)) E F L H := ⟨setCells_below (by omega) _ _ EE.fr, Arr.setCellsO (by omega) _ _ EE.pr, Arr.setCellsO (by omega) _ _ EE.p1, Arr.setCellsO (by omega) _ _ EE.p2, Vr.setCellsO (by omega) EE.vr⟩
       have AF : Arr (x6.setCells X 0 (I64 R)) X 92 (I64 R) := Arr.setCells0 AE (by simp [hRl])
       refine hK.out _ _ EF.all (fun hHeld => ?_)
       clear hK K
       refine wpAnyH_done (by kernel_rfl) ?_ _
       go_wp2
       go_meet
       case rel => exact ⟨X, rfl, AF, EF⟩
     ·skip
      go_simp
      obtain ⟨x3, hVe⟩ : ∃ V, V = x2.alloc (.cells zV 92) := ⟨_, rfl⟩
      have hb3 : Below x2.heap.size x2 x3 := by rw [hVe]; exact (Below.refl _ _).alloc (Nat.le_refl _) _
      have AE : Arr x3 x2.heap.size 92 (I64 Z16) := by rw [hVe]; exact Arr.new _ (I64 Z16) _
      have hX : F < x2.heap.size ∧ w.heap.size < x2.heap.size ∧ E < x2.heap.size := ⟨EE.p2.lt, EE.pr.lt, EE.p1.lt⟩
      obtain ⟨X, hXe⟩ : ∃ X, X = x2.heap.size := ⟨_, rfl⟩
      replace EE := EE.go hb3
      replace i1 := i1.below hb3
      replace i2 := i2.below hb3
      rw [← hVe]
      rw [← hXe] at AE hX ⊢
      clear hVe hXe hb3
      refine hK.out _ _ EE.all (fun hHeld => ?_)
      clear hK K
      refine wpAnyH_ready (rs := [4]) (by kernel_rfl) (by simp) (AllReadyH.cons (o := { dst := some 29, op := Op.buildSlice 155 2 #[(0, Operand.tmp 26), (1, Operand.tmp 28)], type := 155, pos := "l05_scalar.go:47", after := #[{ on := 1, ground := Ground.data }, { on := 3, ground := Ground.data }], guard := none }) rfl (fun K hK => ?_) AllReadyH.nil)
      go_simp
      obtain ⟨x4, hVe⟩ : ∃ V, V = x3.alloc (.cells #[.slice a1 16 c1, .slice a2 16 c2] 29) := ⟨_, rfl⟩
      have hb4 : Below x3.heap.size x3 x4 := by rw [hVe]; exact (Below.refl _ _).alloc (Nat.le_refl _) _
      have AG : Arr x4 x3.heap.size 29 [.slice a1 16 c1, .slice a2 16 c2] := by rw [hVe]; exact Arr.new _ _ _
      obtain ⟨G, hG⟩ : ∃ G, G = x3.heap.size := ⟨_, rfl⟩
      replace EE := EE.go hb4
      replace i1 := i1.below hb4
      replace i2 := i2.below hb4
      replace AE := AE.kept hb4
      rw [← hG] at AG ⊢
      rw [← hVe]
      clear hVe hG hb4
      refine hK.out _ _ EE.all (fun hHeld => ?_)
      clear hK K
      refine wpAnyH_ready (rs := [5]) (by kernel_rfl) (by simp) (AllReadyH.cons (o := { dst := some 30, op := Op.call { callee := Callee.value (Operand.func 61), args := #[Operand.tmp 29], argTypes := #[155] }, type := 29, pos := "l05_scalar.go:47", after := #[{ on := 4, ground := Ground.data }, { on := 3, ground := Ground.chain }], guard := none }) rfl (fun K hK => ?_) AllReadyH.nil)
      go_simp
      refine (concat2I G a1 a2 16 c1 16 c2 L H _ AG.lt (AG.cell 0) (AG.cell 1) i1 i2 (by omega) (by omega)).mono ?_
      rintro e x5 ⟨v3, rfl, o3, hb5⟩
      clear i1 i2 AG
      replace EE := EE.go hb5
      replace AE := AE.kept hb5
      obtain ⟨a3, c3, rfl, _, i3⟩ := Is.own o3 HIC.out
      clear o3 hb5
      go_wp2_with fail
      refine hK.out _ _ EE.all (fun hHeld => ?_)
      clear hK K
      refine wpAnyH_ready (rs := [6]) (by kernel_rfl) (by simp) (AllReadyH.cons (o := { dst := some 31, op := Op.call { callee := Callee.value (Operand.func 60), args := #[Operand.tmp 30], argTypes := #[29] }, type := 92, pos := "l05_scalar.go:47", after := #[{ on := 5, ground := Ground.data }, { on := 5, ground := Ground.chain }], guard := none }) rfl (fun K hK => ?_) AllReadyH.nil)
      go_simp
      refine (HCO.out a3 c3 _ i3 EE.vr).mono ?_
      rintro e x6 ⟨rfl, hb6⟩
      clear i3
      replace EE := EE.go hb6
      replace AE := AE.kept hb6
      clear hb6
      go_wp2_with fail
      refine hK.out _ _ EE.all (fun hHeld => ?_)
      clear hK K
      refine wpAnyH_ready (rs := [8]) (by kernel_rfl) (by simp) (AllReadyH.cons (o := qQk0) rfl (fun K hK => ?_) AllReadyH.nil)
      rw [if_pos (by rfl)]
      refine wp_store_mid _ _ _ rfl _ _ (I64 R).toArray rfl rfl (by have := arr_there AE; simpa [hRl] using this) hir (all_oneCell_toArray hone) ?_
      simp only [Act.put]
      have EF : Hv w (x6.setCells X 0 (I64 R)) E F L H := ⟨setCells_below (by omega) _ _ EE.fr, Arr.setCellsO (by omega) _ _ EE.pr, Arr.setCellsO (by omega) _ _ EE.p1, Arr.setCellsO (by omega) _ _ EE.p2, Vr.setCellsO (by omega) EE.vr⟩
      have AF : Arr (x6.setCells X 0 (I64 R)) X 92 (I64 R) := Arr.setCells0 AE (by simp [hRl])
      refine hK.out _ _ EF.all (fun hHeld => ?_)
      clear hK K
      refine wpAnyH_done (by kernel_rfl) ?_ _
      go_wp2
      go_meet
      case rel => exact ⟨X, rfl, AF, EF⟩
    ·skip
     go_simp
     obtain ⟨x2, hVe⟩ : ∃ V, V = x1.alloc (.cells zV 92) := ⟨_, rfl⟩
     have hb2 : Below x1.heap.size x1 x2 := by rw [hVe]; exact (Below.refl _ _).alloc (Nat.le_refl _) _
     have AE : Arr x2 x1.heap.size 92 (I64 Z16) := by rw [hVe]; exact Arr.new _ (I64 Z16) _
     have hX : F < x1.heap.size ∧ w.heap.size < x1.heap.size ∧ E < x1.heap.size := ⟨EE.p2.lt, EE.pr.lt, EE.p1.lt⟩
     obtain ⟨X, hXe⟩ : ∃ X, X = x1.heap.size := ⟨_, rfl⟩
     replace EE := EE.go hb2
     replace i1 := i1.below hb2
     rw [← hVe]
     rw [← hXe] at AE hX ⊢
     clear hVe hXe hb2
     refine hK.out _ _ EE.all (fun hHeld => ?_)
     clear hK K
     refine wpAnyH_ready (rs := [3]) (by kernel_rfl) (by simp) (AllReadyH.cons (o := { dst := some 28, op := Op.call { callee := Callee.value (Operand.func 59), args := #[Operand.tmp 27], argTypes := #[65] }, type := 29, pos := "l05_scalar.go:47", after := #[{ on := 2, ground := Ground.data }, { on := 1, ground := Ground.chain }], guard := none }) rfl (fun K hK => ?_) AllReadyH.nil)
     go_simp
     refine (implList H _ hHl).mono ?_
     rintro e x3 ⟨a2, c2, rfl, o2, hb3⟩
     replace EE := EE.go hb3
     replace i1 := i1.below hb3
     replace AE := AE.kept hb3
     have i2 := is_of_own o2 HIH.out
     clear o2 hb3
     go_wp2_with fail
     refine hK.out _ _ EE.all (fun hHeld => ?_)
     clear hK K
     refine wpAnyH_ready (rs := [4]) (by kernel_rfl) (by simp) (AllReadyH.cons (o := { dst := some 29, op := Op.buildSlice 155 2 #[(0, Operand.tmp 26), (1, Operand.tmp 28)], type := 155, pos := "l05_scalar.go:47", after := #[{ on := 1, ground := Ground.data }, { on := 3, ground := Ground.data }], guard := none }) rfl (fun K hK => ?_) AllReadyH.nil)
     go_simp
     obtain ⟨x4, hVe⟩ : ∃ V, V = x3.alloc (.cells #[.slice a1 16 c1, .slice a2 16 c2] 29) := ⟨_, rfl⟩
     have hb4 : Below x3.heap.size x3 x4 := by rw [hVe]; exact (Below.refl _ _).alloc (Nat.le_refl _) _
     have AG : Arr x4 x3.heap.size 29 [.slice a1 16 c1, .slice a2 16 c2] := by rw [hVe]; exact Arr.new _ _ _
     obtain ⟨G, hG⟩ : ∃ G, G = x3.heap.size := ⟨_, rfl⟩
     replace EE := EE.go hb4
     replace i1 := i1.below hb4
     replace AE := AE.kept hb4
     replace i2 := i2.below hb4
     rw [← hG] at AG ⊢
     rw [← hVe]
     clear hVe hG hb4
     refine hK.out _ _ EE.all (fun hHeld => ?_)
     clear hK K
     refine wpAnyH_ready (rs := [5]) (by kernel_rfl) (by simp) (AllReadyH.cons (o := { dst := some 30, op := Op.call { callee := Callee.value (Operand.func 61), args := #[Operand.tmp 29], argTypes := #[155] }, type := 29, pos := "l05_scalar.go:47", after := #[{ on := 4, ground := Ground.data }, { on := 3, ground := Ground.chain }], guard := none }) rfl (fun K hK => ?_) AllReadyH.nil)
     go_simp
     refine (concat2I G a1 a2 16 c1 16 c2 L H _ AG.lt (AG.cell 0) (AG.cell 1) i1 i2 (by omega) (by omega)).mono ?_
     rintro e x5 ⟨v3, rfl, o3, hb5⟩
     clear i1 i2 AG
     replace EE := EE.go hb5
     replace AE := AE.kept hb5
     obtain ⟨a3, c3, rfl, _, i3⟩ := Is.own o3 HIC.out
     clear o3 hb5
     go_wp2_with fail
     refine hK.out _ _ EE.all (fun hHeld => ?_)
     clear hK K
     refine wpAnyH_ready (rs := [6]) (by kernel_rfl) (by simp) (AllReadyH.cons (o := { dst := some 31, op := Op.call { callee := Callee.value (Operand.func 60), args := #[Operand.tmp 30], argTypes := #[29] }, type := 92, pos := "l05_scalar.go:47", after := #[{ on := 5, ground := Ground.data }, { on := 5, ground := Ground.chain }], guard := none }) rfl (fun K hK => ?_) AllReadyH.nil)
     go_simp
     refine (HCO.out a3 c3 _ i3 EE.vr).mono ?_
     rintro e x6 ⟨rfl, hb6⟩
     clear i3
     replace EE := EE.go hb6
     replace AE := AE.kept hb6
     clear hb6
     go_wp2_with fail
     refine hK.out _ _ EE.all (fun hHeld => ?_)
     clear hK K
     refine wpAnyH_ready (rs := [8]) (by kernel_rfl) (by simp) (AllReadyH.cons (o := qQk0) rfl (fun K hK => ?_) AllReadyH.nil)
     rw [if_pos (by rfl)]
     refine wp_store_mid _ _ _ rfl _ _ (I64 R).toArray rfl rfl (by have := arr_there AE; simpa [hRl] using this) hir (all_oneCell_toArray hone) ?_
     simp only [Act.put]
     have EF : Hv w (x6.setCells X 0 (I64 R)) E F L H := ⟨setCells_below (by omega) _ _ EE.fr, Arr.setCellsO (by omega) _ _ EE.pr, Arr.setCellsO (by omega) _ _ EE.p1, Arr.setCellsO (by omega) _ _ EE.p2, Vr.setCellsO (by omega) EE.vr⟩
     have AF : Arr (x6.setCells X 0 (I64 R)) X 92 (I64 R) := Arr.setCells0 AE (by simp [hRl])
     refine hK.out _ _ EF.all (fun hHeld => ?_)
     clear hK K
     refine wpAnyH_done (by kernel_rfl) ?_ _
     go_wp2
     go_meet
     case rel => exact ⟨X, rfl, AF, EF⟩
   ·skip
    go_simp
    obtain ⟨x1, hVe⟩ : ∃ V, V = wD.alloc (.cells zV 92) := ⟨_, rfl⟩
    have hb1 : Below wD.heap.size wD x1 := by rw [hVe]; exact (Below.refl _ _).alloc (Nat.le_refl _) _
    have AE : Arr x1 wD.heap.size 92 (I64 Z16) := by rw [hVe]; exact Arr.new _ (I64 Z16) _
    have hX : F < wD.heap.size ∧ w.heap.size < wD.heap.size ∧ E < wD.heap.size := ⟨EE.p2.lt, EE.pr.lt, EE.p1.lt⟩
    obtain ⟨X, hXe⟩ : ∃ X, X = wD.heap.size := ⟨_, rfl⟩
    replace EE := EE.go hb1
    rw [← hVe]
    rw [← hXe] at AE hX ⊢
    clear hVe hXe hb1
    refine hK.out _ _ EE.all (fun hHeld => ?_)
    clear hK K
    refine wpAnyH_ready (rs := [1]) (by kernel_rfl) (by simp) (AllReadyH.cons (o := { dst := some 26, op := Op.call { callee := Callee.value (Operand.func 59), args := #[Operand.tmp 25], argTypes := #[65] }, type := 29, pos := "l05_scalar.go:47", after := #[{ on := 0, ground := Ground.data }], guard := none }) rfl (fun K hK => ?_) AllReadyH.nil)
    go_simp
    refine (implList L _ hLl).mono ?_
    rintro e x2 ⟨a1, c1, rfl, o1, hb2⟩
    replace EE := EE.go hb2
    replace AE := AE.kept hb2
    have i1 := is_of_own o1 HIL.out
    clear o1 hb2
    go_wp2_with fail
    refine hK.out _ _ EE.all (fun hHeld => ?_)
    clear hK K
    refine wpAnyH_ready (rs := [3]) (by kernel_rfl) (by simp) (AllReadyH.cons (o := { dst := some 28, op := Op.call { callee := Callee.value (Operand.func 59), args := #[Operand.tmp 27], argTypes := #[65] }, type := 29, pos := "l05_scalar.go:47", after := #[{ on := 2, ground := Ground.data }, { on := 1, ground := Ground.chain }], guard := none }) rfl (fun K hK => ?_) AllReadyH.nil)
    go_simp
    refine (implList H _ hHl).mono ?_
    rintro e x3 ⟨a2, c2, rfl, o2, hb3⟩
    replace EE := EE.go hb3
    replace AE := AE.kept hb3
    replace i1 := i1.below hb3
    have i2 := is_of_own o2 HIH.out
    clear o2 hb3
    go_wp2_with fail
    refine hK.out _ _ EE.all (fun hHeld => ?_)
    clear hK K
    refine wpAnyH_ready (rs := [4]) (by kernel_rfl) (by simp) (AllReadyH.cons (o := { dst := some 29, op := Op.buildSlice 155 2 #[(0, Operand.tmp 26), (1, Operand.tmp 28)], type := 155, pos := "l05_scalar.go:47", after := #[{ on := 1, ground := Ground.data }, { on := 3, ground := Ground.data }], guard := none }) rfl (fun K hK => ?_) AllReadyH.nil)
    go_simp
    obtain ⟨x4, hVe⟩ : ∃ V, V = x3.alloc (.cells #[.slice a1 16 c1, .slice a2 16 c2] 29) := ⟨_, rfl⟩
    have hb4 : Below x3.heap.size x3 x4 := by rw [hVe]; exact (Below.refl _ _).alloc (Nat.le_refl _) _
    have AG : Arr x4 x3.heap.size 29 [.slice a1 16 c1, .slice a2 16 c2] := by rw [hVe]; exact Arr.new _ _ _
    obtain ⟨G, hG⟩ : ∃ G, G = x3.heap.size := ⟨_, rfl⟩
    replace EE := EE.go hb4
    replace AE := AE.kept hb4
    replace i1 := i1.below hb4
    replace i2 := i2.below hb4
    rw [← hG] at AG ⊢
    rw [← hVe]
    clear hVe hG hb4
    refine hK.out _ _ EE.all (fun hHeld => ?_)
    clear hK K
    refine wpAnyH_ready (rs := [5]) (by kernel_rfl) (by simp) (AllReadyH.cons (o := { dst := some 30, op := Op.call { callee := Callee.value (Operand.func 61), args := #[Operand.tmp 29], argTypes := #[155] }, type := 29, pos := "l05_scalar.go:47", after := #[{ on := 4, ground := Ground.data }, { on := 3, ground := Ground.chain }], guard := none }) rfl (fun K hK => ?_) AllReadyH.nil)
    go_simp
    refine (concat2I G a1 a2 16 c1 16 c2 L H _ AG.lt (AG.cell 0) (AG.cell 1) i1 i2 (by omega) (by omega)).mono ?_
    rintro e x5 ⟨v3, rfl, o3, hb5⟩
    clear i1 i2 AG
    replace EE := EE.go hb5
    replace AE := AE.kept hb5
    obtain ⟨a3, c3, rfl, _, i3⟩ := Is.own o3 HIC.out
    clear o3 hb5
    go_wp2_with fail
    refine hK.out _ _ EE.all (fun hHeld => ?_)
    clear hK K
    refine wpAnyH_ready (rs := [6]) (by kernel_rfl) (by simp) (AllReadyH.cons (o := { dst := some 31, op := Op.call { callee := Callee.value (Operand.func 60), args := #[Operand.tmp 30], argTypes := #[29] }, type := 92, pos := "l05_scalar.go:47", after := #[{ on := 5, ground := Ground.data }, { on := 5, ground := Ground.chain }], guard := none }) rfl (fun K hK => ?_) AllReadyH.nil)
    go_simp
    refine (HCO.out a3 c3 _ i3 EE.vr).mono ?_
    rintro e x6 ⟨rfl, hb6⟩
    clear i3
    replace EE := EE.go hb6
    replace AE := AE.kept hb6
    clear hb6
    go_wp2_with fail
    refine hK.out _ _ EE.all (fun hHeld => ?_)
    clear hK K
    refine wpAnyH_ready (rs := [8]) (by kernel_rfl) (by simp) (AllReadyH.cons (o := qQk0) rfl (fun K hK => ?_) AllReadyH.nil)
    rw [if_pos (by rfl)]
    refine wp_store_mid _ _ _ rfl _ _ (I64 R).toArray rfl rfl (by have := arr_there AE; simpa [hRl] using this) hir (all_oneCell_toArray hone) ?_
    simp only [Act.put]
    have EF : Hv w (x6.setCells X 0 (I64 R)) E F L H := ⟨setCells_below (by omega) _ _ EE.fr, Arr.setCellsO (by omega) _ _ EE.pr, Arr.setCellsO (by omega) _ _ EE.p1, Arr.setCellsO (by omega) _ _ EE.p2, Vr.setCellsO (by omega) EE.vr⟩
    have AF : Arr (x6.setCells X 0 (I64 R)) X 92 (I64 R) := Arr.setCells0 AE (by simp [hRl])
    refine hK.out _ _ EF.all (fun hHeld => ?_)
    clear hK K
    refine wpAnyH_done (by kernel_rfl) ?_ _
    go_wp2
    go_meet
    case rel => exact ⟨X, rfl, AF, EF⟩
  case rest =>
   clear E0
   obtain ⟨G, rfl, hG, EE⟩ := hcut
   go_wp2_with (refine wpList_load_row rfl 65 _ rfl G rfl 92 (I64 R).toArray (0, 0) _ hG Tryz.underlying65 rfl hirl ?_)
   refine (implList R _ hRl).mono ?_
   rintro e w4 ⟨a', c', rfl, ho, hb4⟩
   have hlt := EE.pr.lt
   have hsz := EE.fr.size
   replace EE := EE.go hb4
   have HOW : Hid _ := own_base (own_otherS ho ⟨w.heap.size, 0, none⟩ (.slice a' 16 c') hlt) hsz
   have hcr : w4.cell? ⟨w.heap.size, 0, none⟩ = some (.slice none 0 0) := EE.pr.cell 0
   have hfr := EE.pr.frozen 0
   have HA : Hid _ := EE.pr.set 0 (.slice a' 16 c')
   have HB : Hid _ := EE.fr.setCell (p := ⟨w.heap.size, 0, none⟩) (Nat.le_refl _) (.slice a' 16 c')
   clear EE ho hb4 hsz hlt hG
   go_wp2
   exact bodyPost_ret (results_row_tmp (v := .bool true) (cs := [.slice a' 16 c']) rfl rfl rfl HA.out Tryz.underlying41 rfl infoSc) rfl ⟨_, rfl, feT_16 hRl HOW.out, HB.out⟩
 ·have e1 : wdOk bs = false := by unfold wdOk; simp; omega
  have e2 : wdF bs = [] := by unfold wdF; rw [e1]; rfl
  rw [e1, e2]
  have hn' : ¬ ((n : Int) = 64) := by omega
  have hcr : W.cell? ⟨w.heap.size, 0, none⟩ = some (.slice none 0 0) := hpr.cell 0
  have hf0 := hpr.frozen 0
  have HA : Hid _ := hpr
  have HB : Hid _ := hfr
  rw [hW] at hcr hf0
  have HW : Hid _ := hW
  clear hbl e1 e2 hx hV hfr hpr hW
  go_enter Tryz.func17, Tryz.ntmps17
  go_wp2
  rw [← HW.out]
  exact bodyPost_ret (results_row_tmp (v := .bool false) (cs := [.slice none 0 0]) rfl rfl rfl HA.out Tryz.underlying41 rfl infoSc) rfl ⟨_, rfl, feT_nil _ _ _, HB.out⟩
end Go.Proofs.YtihoaakbkffejaaGreatDoor
namespace Go.Proofs.YtihoaakbkffejaaGreatDoor
open Go.RowKit

end Go.Proofs.YtihoaakbkffejaaGreatDoor
namespace Go.Proofs.YtihoaakbkffejaaGreatDoor
open Go.RowKit
set_option maxRecDepth 100000

def zb32 : Array Value := #[.int .u8 0, .int .u8 0, .int .u8 0, .int .u8 0, .int .u8 0, .int .u8 0, .int .u8 0, .int .u8 0, .int .u8 0, .int .u8 0, .int .u8 0, .int .u8 0, .int .u8 0, .int .u8 0, .int .u8 0, .int .u8 0, .int .u8 0, .int .u8 0, .int .u8 0, .int .u8 0, .int .u8 0, .int .u8 0, .int .u8 0, .int .u8 0, .int .u8 0, .int .u8 0, .int .u8 0, .int .u8 0, .int .u8 0, .int .u8 0, .int .u8 0, .int .u8 0]
theorem make32 (w : World) : (Instr.makeSlice 22 (.int .i64 32) (.int .i64 32)).run Tryz.prog w = .ok (.slice (some ⟨w.heap.size, 0, none⟩) 32 32) (w.alloc (.cells zb32 5)) := by kernel_rfl
end Go.Proofs.YtihoaakbkffejaaGreatDoor
namespace Go.Proofs.YtihoaakbkffejaaGreatDoor
open Go.RowKit

set_option maxHeartbeats 2000000 in
theorem concat3 (g : Nat) (a a' a'' : Option Addr) (n c n' c' n'' c'' : Nat) (xs ys zs : List Int) (w : World) (hg : g < w.heap.size)
  (h0 : w.cell? ⟨g, 0, none⟩ = some (.slice a n c)) (h1 : w.cell? ⟨g, 1, none⟩ = some (.slice a' n' c')) (h2 : w.cell? ⟨g, 2, none⟩ = some (.slice a'' n'' c'')) (h : Bs w a n c xs) (h' : Bs w a' n' c' ys) (h'' : Bs w a'' n'' c'' zs) (hn : n ≤ 1048576) (hn' : n' ≤ 1048576) (hn'' : n'' ≤ 1048576) :
  Calls Tryz.prog 39 #[.slice (some ⟨g, 0, none⟩) 3 3] w fun e w' => ∃ v, e = .returned v ∧ w'.ownsRow w.heap.size 5 1 v (n + n' + n'') (U8 (xs ++ ys ++ zs)) ∧ Below w.heap.size w w' := by
 go_enter Tryz.func39, Tryz.ntmps39
 go_wp2
 refine wp_loop_rounds 4 ?_
 rw [rounds_succ]
 go_wp2
 rw [rounds_succ]
 go_wp2
 rw [rounds_succ]
 go_wp2
 rw [rounds_succ]
 go_wp2_with fail
 have eN : ((n : Int) + (n' : Int) + (n'' : Int)) = ((n + n' + n'' : Nat) : Int) := by omega
 rw [eN]
 refine (growNil (n + n' + n'') w (by omega)).mono ?_
 rintro e w1 ⟨v1, rfl, hown1, b1⟩
 have q0 : w1.cell? ⟨g, 0, none⟩ = some (.slice a n c) := (b1.cell (p := ⟨g, 0, none⟩) hg).trans h0
 have q1 : w1.cell? ⟨g, 1, none⟩ = some (.slice a' n' c') := (b1.cell (p := ⟨g, 1, none⟩) hg).trans h1
 have q2 : w1.cell? ⟨g, 2, none⟩ = some (.slice a'' n'' c'') := (b1.cell (p := ⟨g, 2, none⟩) hg).trans h2
 have s1 := b1.size
 have hx1 := h.below b1
 clear h0 h1 h2 eN
 go_wp2
 refine wp_loop_rounds 4 ?_
 rw [rounds_succ]
 go_wp2_with (at_builtin; refine wpl_append_bs rfl _ _ rfl w.heap.size _ 0 [] rfl a n c xs rfl hown1 hx1 ?_ ?_ ?_)
 ·omega
 ·omega
 intro v2 w2 hown2 hgr2 _
 have b2 : Below w.heap.size w w2 := below_app0 b1 s1 hown1 hgr2
 have q1' : w2.cell? ⟨g, 1, none⟩ = some (.slice a' n' c') := (b2.cell (p := ⟨g, 1, none⟩) hg).trans ((b1.cell (p := ⟨g, 1, none⟩) hg).symm.trans q1)
 have q2' : w2.cell? ⟨g, 2, none⟩ = some (.slice a'' n'' c'') := (b2.cell (p := ⟨g, 2, none⟩) hg).trans ((b1.cell (p := ⟨g, 2, none⟩) hg).symm.trans q2)
 have s2 := b2.size
 have hy2 := h'.below b2
 clear hgr2 hown1 b1 q0 q1 q2 s1 hx1 h h'
 go_wp2
 rw [rounds_succ]
 go_wp2_with (at_builtin; refine wpl_append_bs rfl _ _ rfl w.heap.size _ n xs rfl a' n' c' ys rfl hown2 hy2 ?_ ?_ ?_)
 ·omega
 ·omega
 intro v3 w3 hown3 hgr3 _
 have b3 : Below w.heap.size w w3 := below_app0 b2 s2 hown2 hgr3
 have q3 : w3.cell? ⟨g, 2, none⟩ = some (.slice a'' n'' c'') := (b3.cell (p := ⟨g, 2, none⟩) hg).trans ((b2.cell (p := ⟨g, 2, none⟩) hg).symm.trans q2')
 have s3 := b3.size
 have hz3 := h''.below b3
 replace hown3 : w3.ownsRow w.heap.size 5 1 v3 (n + n') (U8 (xs ++ ys)) := by simpa [U8] using hown3
 clear hgr3 hown2 b2 q1' q2' s2 hy2
 go_wp2
 rw [rounds_succ]
 go_wp2_with (at_builtin; refine wpl_append_bs rfl _ _ rfl w.heap.size _ (n + n') (xs ++ ys) rfl a'' n'' c'' zs rfl hown3 hz3 ?_ ?_ ?_)
 ·omega
 ·omega
 intro v4 w4 hown4 hgr4 _
 have b4 : Below w.heap.size w w4 := below_app0 b3 s3 hown3 hgr4
 clear hgr4 hown3 b3 q3 s3 hz3
 go_wp2
 rw [rounds_succ]
 go_wp2
 go_ret
 exact ⟨v4, rfl, by simpa [U8] using hown4, b4⟩
end Go.Proofs.YtihoaakbkffejaaGreatDoor

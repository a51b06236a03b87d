/-
  What is proved here: what the methods part and need of the program's reader do: they give back what stands there, or give up by a panic.
-/
import Derived.Test.YtofflhhlacdgfaaDoorRd1
import Derived.Test.YtofflhhlacdgfaaDoorPd2
namespace Go.Proofs.YtofflhhlacdgfaaDoor
open Go.RowKit Ma
set_option maxRecDepth 100000
set_option maxHeartbeats 8000000
set_option linter.unusedVariables false

/-- How far the world has come, and where the reader stands. -/
structure Rg (w W : World) (R : Nat) (a : Option Addr) (n c q : Nat) : Prop where
  G : w.grownBy W (some R)
  A : Arr W R 82 (RdC a n c q)
section
variable {w W W' : World} {R : Nat} {a : Option Addr} {n c p q q' : Nat} {xs : List Int}
theorem Rdr.rg (h : Rdr w R a n c p xs) : Rg w w R a n c p := ⟨World.grownBy.refl _ _, h.A⟩
theorem Rg.rdr (g : Rg w W R a n c q) (h : Rdr w R a n c p xs) (hne : ∀ b o, a = some ⟨b, o, none⟩ → 0 < n → b ≠ R) (hR : R ≠ 0) : Rdr W R a n c q xs := h.go hne hR g.G g.A
theorem Rg.num (g : Rg w W R a n c q) (hg : W.grownBy W' (some R)) (A : Arr W' R 82 (RdC a n c q')) : Rg w W' R a n c q' := ⟨grown_trans g.G hg, A⟩
theorem Rg.below (g : Rg w W R a n c q) (hb : Below W.heap.size W W') : Rg w W' R a n c q := ⟨grown_trans g.G ⟨hb.os, hb.tape, hb.output, hb.size, fun i hi _ => hb.block i hi⟩, g.A.kept hb⟩
theorem Rg.alloc (g : Rg w W R a n c q) (o : Obj) : Rg w (W.alloc o) R a n c q := g.below ((Below.refl _ _).alloc (Nat.le_refl _) _)
theorem Rg.set (g : Rg w W R a n c q) {X : Nat} (hX : w.heap.size ≤ X) (hR : R < w.heap.size) (j : Nat) (v : Value) : Rg w (W.setCell ⟨X, j, none⟩ v) R a n c q :=
  ⟨grown_into g.G (cur_grown2 W X v j) (fun k hk => .inl (by injection hk with hk; omega)), g.A.other ⟨X, j, none⟩ v (by show R ≠ X; omega)⟩
theorem Rg.app (g : Rg w W R a n c q) {lo t s m : Nat} {v : Value} {ys : List Value} (o : W.ownsRow lo t s v m ys) (hlo : w.heap.size ≤ lo) (hR : R < w.heap.size) (hg : W.grownBy W' v.ownBlock) : Rg w W' R a n c q := by
  refine ⟨grown_into g.G hg (fun k hk => .inl (Nat.le_trans hlo (World.ownsRow.lt o k hk).1)), ?_⟩
  unfold Arr
  rw [hg.block _ g.A.lt (fun e => by have := (World.ownsRow.lt o R e.symm).1; omega)]
  exact g.A
end
theorem rdPart (R : Nat) (a : Option Addr) (n c p0 : Nat) (xs : List Int) (w : World) (h : Rdr w R a n c p0 xs) (hn : n ≤ 1048576) (hp0 : p0 ≤ n) (hR : R ≠ 0) (hne : ∀ b o, a = some ⟨b, o, none⟩ → 0 < n → b ≠ R) :
    Calls Tryd.prog 108 #[.pointer (some ⟨R, 0, none⟩)] w fun e w' => (∃ x q va vc, rpart xs p0 = some (x, q) ∧ e = .returned (.agg #[.int .i64 x.k, .int .i64 x.v, .int .i64 x.s, .slice va 32 vc]) ∧ q ≤ n ∧ w'.ownsRow w.heap.size 5 1 (.slice va 32 vc) 32 (U8 x.h) ∧ w.grownBy w' (some R) ∧ Arr w' R 82 (RdC a n c q)) ∨ (rpart xs p0 = none ∧ Dead e ∧ w.grownBy w' (some R)) := by
  have hlR := h.A.lt
  have H : Hid (Rdr w R a n c p0 xs) := h
  obtain ⟨V, hV⟩ : ∃ V, V = (w.alloc (.cells #[.int .i64 0, .int .i64 0, .int .i64 0, .slice none 0 0] 45)).alloc (.cells #[.int .i64 0, .int .i64 0, .int .i64 0, .slice none 0 0] 45) := ⟨_, rfl⟩
  have QV : Arr V w.heap.size 45 [.int .i64 0, .int .i64 0, .int .i64 0, .slice none 0 0] := by rw [hV]; exact (Arr.new _ _ _).alloc _
  have QX : Arr V (w.heap.size + 1) 45 [.int .i64 0, .int .i64 0, .int .i64 0, .slice none 0 0] := by
    have := Arr.new (w.alloc (.cells #[.int .i64 0, .int .i64 0, .int .i64 0, .slice none 0 0] 45)) [.int .i64 0, .int .i64 0, .int .i64 0, .slice none 0 0] 45
    rw [hV]
    simpa using this
  have RG : Rg w V R a n c p0 := by rw [hV]; exact (h.rg.alloc _).alloc _
  obtain ⟨X, hXe⟩ : ∃ X, X = w.heap.size + 1 := ⟨_, rfl⟩
  have hX : w.heap.size ≤ X := by omega
  have hXV : w.heap.size ≠ X := by omega
  have hRV : R ≠ w.heap.size := by omega
  have hRX : R ≠ X := by omega
  clear h
  go_enter Tryd.func108, Tryd.ntmps108
  go_upto_region 2 with fail
  try rw [← hV]
  rw [← hXe] at QX
  try rw [← hXe]
  clear hV hXe
  go_wp2_with fail
  refine (rdNumber R a n c p0 xs _ RG.A (RG.rdr H.out hne hR).b hn hp0 (RG.rdr H.out hne hR).e).mono ?_
  rintro e w0 (⟨v0, p1, hr0, rfl, hp1, hg, hA⟩ | ⟨hr0, ⟨T, pv, rfl⟩, hg⟩)
  case inr => exact ⟨rfl, .inr ⟨by unfold rpart; simp [hr0], ⟨_, _, rfl⟩, grown_trans RG.G hg⟩⟩
  replace RG := RG.num hg hA
  replace QV := QV.pk hg hRV
  replace QX := QX.pk hg hRX
  clear hg hA
  have c0 := QX.cell 0
  simp at c0
  have fX := QX.frozen
  have lX := QX.lt
  go_upto_region 3 with fail
  replace RG := RG.set hX hlR 0 (.int .i64 v0)
  replace QV := QV.other ⟨X, 0, none⟩ (.int .i64 v0) (by show w.heap.size ≠ X; omega)
  replace QX := QX.set 0 (.int .i64 v0)
  simp only [List.set_cons_zero] at QX
  clear c0 fX lX
  obtain ⟨z0, hZ⟩ : ∃ Z, Z = w0.setCell ⟨X, 0, none⟩ (.int .i64 v0) := ⟨_, rfl⟩
  rw [← hZ] at RG QV QX ⊢
  clear hZ
  go_wp2_with fail
  refine (rdNumber R a n c p1 xs _ RG.A (RG.rdr H.out hne hR).b hn hp1 (RG.rdr H.out hne hR).e).mono ?_
  rintro e w1 (⟨v1, p2, hr1, rfl, hp2, hg, hA⟩ | ⟨hr1, ⟨T, pv, rfl⟩, hg⟩)
  case inr => exact ⟨rfl, .inr ⟨by unfold rpart; simp [hr0, hr1], ⟨_, _, rfl⟩, grown_trans RG.G hg⟩⟩
  replace RG := RG.num hg hA
  replace QV := QV.pk hg hRV
  replace QX := QX.pk hg hRX
  clear hg hA
  have c1 := QX.cell 1
  simp at c1
  have fX := QX.frozen
  have lX := QX.lt
  go_upto_region 4 with fail
  replace RG := RG.set hX hlR 1 (.int .i64 v1)
  replace QV := QV.other ⟨X, 1, none⟩ (.int .i64 v1) (by show w.heap.size ≠ X; omega)
  replace QX := QX.set 1 (.int .i64 v1)
  simp only [List.set_cons_zero, List.set_cons_succ] at QX
  clear c1 fX lX
  obtain ⟨z1, hZ⟩ : ∃ Z, Z = w1.setCell ⟨X, 1, none⟩ (.int .i64 v1) := ⟨_, rfl⟩
  rw [← hZ] at RG QV QX ⊢
  clear hZ
  go_wp2_with fail
  refine (rdNumber R a n c p2 xs _ RG.A (RG.rdr H.out hne hR).b hn hp2 (RG.rdr H.out hne hR).e).mono ?_
  rintro e w2 (⟨v2, p3, hr2, rfl, hp3, hg, hA⟩ | ⟨hr2, ⟨T, pv, rfl⟩, hg⟩)
  case inr => exact ⟨rfl, .inr ⟨by unfold rpart; simp [hr0, hr1, hr2], ⟨_, _, rfl⟩, grown_trans RG.G hg⟩⟩
  replace RG := RG.num hg hA
  replace QV := QV.pk hg hRV
  replace QX := QX.pk hg hRX
  clear hg hA
  have c2 := QX.cell 2
  simp at c2
  have fX := QX.frozen
  have lX := QX.lt
  go_upto_region 5 with fail
  replace RG := RG.set hX hlR 2 (.int .i64 v2)
  replace QV := QV.other ⟨X, 2, none⟩ (.int .i64 v2) (by show w.heap.size ≠ X; omega)
  replace QX := QX.set 2 (.int .i64 v2)
  simp only [List.set_cons_zero, List.set_cons_succ] at QX
  clear c2 fX lX
  obtain ⟨z2, hZ⟩ : ∃ Z, Z = w2.setCell ⟨X, 2, none⟩ (.int .i64 v2) := ⟨_, rfl⟩
  rw [← hZ] at RG QV QX ⊢
  clear hZ
  go_wp2_with fail
  refine (rdHash R a n c p3 xs _ (RG.rdr H.out hne hR) hn hp3 hR hne).mono ?_
  rintro e w3 (⟨hs, p4, va, vc, hr3, rfl, hp4, ho, hg, hA⟩ | ⟨hr3, ⟨T, pv, rfl⟩, hg⟩)
  case inr => exact ⟨rfl, .inr ⟨by unfold rpart; simp [hr0, hr1, hr2, hr3], ⟨_, _, rfl⟩, grown_trans RG.G hg⟩⟩
  have ho2 := own_lowK ho RG.G.size
  replace RG := RG.num hg hA
  replace QV := QV.pk hg hRV
  replace QX := QX.pk hg hRX
  have HO : Hid (w3.ownsRow w.heap.size 5 1 (.slice va 32 vc) 32 (U8 hs)) := ho2
  have HRP : Hid (rpart xs p0 = some (⟨v0, v1, v2, hs⟩, p4)) := by unfold Hid rpart; simp [hr0, hr1, hr2, hr3]
  clear hg hA ho ho2 hr0 hr1 hr2 hr3
  replace HO : Hid ((w3.setCell ⟨X, 3, none⟩ (.slice va 32 vc)).ownsRow w.heap.size 5 1 (.slice va 32 vc) 32 (U8 hs)) := own_cellP HO.out QX (by decide)
  have c3 := QX.cell 3
  simp at c3
  have fX := QX.frozen
  have lX := QX.lt
  go_upto_region 6 with fail
  replace RG := RG.set hX hlR 3 (.slice va 32 vc)
  replace QV := QV.other ⟨X, 3, none⟩ (.slice va 32 vc) (by show w.heap.size ≠ X; omega)
  replace QX := QX.set 3 (.slice va 32 vc)
  simp only [List.set_cons_zero, List.set_cons_succ] at QX
  clear c3 fX lX
  obtain ⟨z3, hZ⟩ : ∃ Z, Z = w3.setCell ⟨X, 3, none⟩ (.slice va 32 vc) := ⟨_, rfl⟩
  rw [← hZ] at RG QV QX HO ⊢
  clear hZ
  have x0 := QX.cell 0
  have x1 := QX.cell 1
  have x2 := QX.cell 2
  have x3 := QX.cell 3
  simp at x0 x1 x2 x3
  have q0 := QV.cell 0
  have q1 := QV.cell 1
  have q2 := QV.cell 2
  have q3 := QV.cell 3
  simp at q0 q1 q2 q3
  have fQ := QV.frozen
  have lQ := QV.lt
  have HK : Hid _ := (((QV.set 0 (.int .i64 v0)).set 1 (.int .i64 v1)).set 2 (.int .i64 v2)).set 3 (.slice va 32 vc)
  have HG : Hid _ := (((RG.set (Nat.le_refl _) hlR 0 (.int .i64 v0)).set (Nat.le_refl _) hlR 1 (.int .i64 v1)).set (Nat.le_refl _) hlR 2 (.int .i64 v2)).set (Nat.le_refl _) hlR 3 (.slice va 32 vc)
  have HO4 : Hid _ := own_cellP (j := 3) (u := .slice va 32 vc) (own_cellP (j := 2) (u := .int .i64 v2) (own_cellP (j := 1) (u := .int .i64 v1) (own_cellP (j := 0) (u := .int .i64 v0) HO.out QV (by decide)) (QV.set 0 (.int .i64 v0)) (by decide)) ((QV.set 0 (.int .i64 v0)).set 1 (.int .i64 v1)) (by decide)) (((QV.set 0 (.int .i64 v0)).set 1 (.int .i64 v1)).set 2 (.int .i64 v2)) (by decide)
  clear QV QX RG HO
  go_wp2
  exact bodyPost_ret (results_cell_row rfl _ _ w.heap.size 45 _ (0, 0) _ rfl HK.out Tryd.underlying45 rfl (by kernel_rfl)) rfl (by first | exact .inl ⟨_, p4, va, vc, HRP.out, rfl, hp4, HO4.out, HG.out.G, HG.out.A⟩ | exact .inl ⟨_, p4, HRP.out, va, vc, rfl, hp4, HO4.out, HG.out.G, HG.out.A⟩)
theorem rdNeed (R : Nat) (a : Option Addr) (n c p0 : Nat) (xs : List Int) (w : World) (h : Rdr w R a n c p0 xs) (hn : n ≤ 1048576) (hp0 : p0 ≤ n) (hR : R ≠ 0) (hne : ∀ b o, a = some ⟨b, o, none⟩ → 0 < n → b ≠ R) :
    Calls Tryd.prog 109 #[.pointer (some ⟨R, 0, none⟩)] w fun e w' => (∃ x q, rneed xs p0 = some (x, q) ∧ e = .returned (.agg #[.int .i64 x.o, .int .i64 x.f, .int .i64 x.t, .int .i64 x.k]) ∧ q ≤ n ∧ w.grownBy w' (some R) ∧ Arr w' R 82 (RdC a n c q)) ∨ (rneed xs p0 = none ∧ Dead e ∧ w.grownBy w' (some R)) := by
  have hlR := h.A.lt
  have H : Hid (Rdr w R a n c p0 xs) := h
  obtain ⟨V, hV⟩ : ∃ V, V = (w.alloc (.cells #[.int .i64 0, .int .i64 0, .int .i64 0, .int .i64 0] 41)).alloc (.cells #[.int .i64 0, .int .i64 0, .int .i64 0, .int .i64 0] 41) := ⟨_, rfl⟩
  have QV : Arr V w.heap.size 41 [.int .i64 0, .int .i64 0, .int .i64 0, .int .i64 0] := by rw [hV]; exact (Arr.new _ _ _).alloc _
  have QX : Arr V (w.heap.size + 1) 41 [.int .i64 0, .int .i64 0, .int .i64 0, .int .i64 0] := by
    have := Arr.new (w.alloc (.cells #[.int .i64 0, .int .i64 0, .int .i64 0, .int .i64 0] 41)) [.int .i64 0, .int .i64 0, .int .i64 0, .int .i64 0] 41
    rw [hV]
    simpa using this
  have RG : Rg w V R a n c p0 := by rw [hV]; exact (h.rg.alloc _).alloc _
  obtain ⟨X, hXe⟩ : ∃ X, X = w.heap.size + 1 := ⟨_, rfl⟩
  have hX : w.heap.size ≤ X := by omega
  have hXV : w.heap.size ≠ X := by omega
  have hRV : R ≠ w.heap.size := by omega
  have hRX : R ≠ X := by omega
  clear h
  go_enter Tryd.func109, Tryd.ntmps109
  go_upto_region 2 with fail
  try rw [← hV]
  rw [← hXe] at QX
  try rw [← hXe]
  clear hV hXe
  go_wp2_with fail
  refine (rdNumber R a n c p0 xs _ RG.A (RG.rdr H.out hne hR).b hn hp0 (RG.rdr H.out hne hR).e).mono ?_
  rintro e w0 (⟨v0, p1, hr0, rfl, hp1, hg, hA⟩ | ⟨hr0, ⟨T, pv, rfl⟩, hg⟩)
  case inr => exact ⟨rfl, .inr ⟨by unfold rneed; simp [hr0], ⟨_, _, rfl⟩, grown_trans RG.G hg⟩⟩
  replace RG := RG.num hg hA
  replace QV := QV.pk hg hRV
  replace QX := QX.pk hg hRX
  clear hg hA
  have c0 := QX.cell 0
  simp at c0
  have fX := QX.frozen
  have lX := QX.lt
  go_upto_region 3 with fail
  replace RG := RG.set hX hlR 0 (.int .i64 v0)
  replace QV := QV.other ⟨X, 0, none⟩ (.int .i64 v0) (by show w.heap.size ≠ X; omega)
  replace QX := QX.set 0 (.int .i64 v0)
  simp only [List.set_cons_zero] at QX
  clear c0 fX lX
  obtain ⟨z0, hZ⟩ : ∃ Z, Z = w0.setCell ⟨X, 0, none⟩ (.int .i64 v0) := ⟨_, rfl⟩
  rw [← hZ] at RG QV QX ⊢
  clear hZ
  go_wp2_with fail
  refine (rdNumber R a n c p1 xs _ RG.A (RG.rdr H.out hne hR).b hn hp1 (RG.rdr H.out hne hR).e).mono ?_
  rintro e w1 (⟨v1, p2, hr1, rfl, hp2, hg, hA⟩ | ⟨hr1, ⟨T, pv, rfl⟩, hg⟩)
  case inr => exact ⟨rfl, .inr ⟨by unfold rneed; simp [hr0, hr1], ⟨_, _, rfl⟩, grown_trans RG.G hg⟩⟩
  replace RG := RG.num hg hA
  replace QV := QV.pk hg hRV
  replace QX := QX.pk hg hRX
  clear hg hA
  have c3 := QX.cell 3
  simp at c3
  have fX := QX.frozen
  have lX := QX.lt
  go_upto_region 4 with fail
  replace RG := RG.set hX hlR 3 (.int .i64 v1)
  replace QV := QV.other ⟨X, 3, none⟩ (.int .i64 v1) (by show w.heap.size ≠ X; omega)
  replace QX := QX.set 3 (.int .i64 v1)
  simp only [List.set_cons_zero, List.set_cons_succ] at QX
  clear c3 fX lX
  obtain ⟨z1, hZ⟩ : ∃ Z, Z = w1.setCell ⟨X, 3, none⟩ (.int .i64 v1) := ⟨_, rfl⟩
  rw [← hZ] at RG QV QX ⊢
  clear hZ
  go_wp2_with fail
  refine (rdNumber R a n c p2 xs _ RG.A (RG.rdr H.out hne hR).b hn hp2 (RG.rdr H.out hne hR).e).mono ?_
  rintro e w2 (⟨v2, p3, hr2, rfl, hp3, hg, hA⟩ | ⟨hr2, ⟨T, pv, rfl⟩, hg⟩)
  case inr => exact ⟨rfl, .inr ⟨by unfold rneed; simp [hr0, hr1, hr2], ⟨_, _, rfl⟩, grown_trans RG.G hg⟩⟩
  replace RG := RG.num hg hA
  replace QV := QV.pk hg hRV
  replace QX := QX.pk hg hRX
  clear hg hA
  have c1 := QX.cell 1
  simp at c1
  have fX := QX.frozen
  have lX := QX.lt
  go_upto_region 5 with fail
  replace RG := RG.set hX hlR 1 (.int .i64 v2)
  replace QV := QV.other ⟨X, 1, none⟩ (.int .i64 v2) (by show w.heap.size ≠ X; omega)
  replace QX := QX.set 1 (.int .i64 v2)
  simp only [List.set_cons_zero, List.set_cons_succ] at QX
  clear c1 fX lX
  obtain ⟨z2, hZ⟩ : ∃ Z, Z = w2.setCell ⟨X, 1, none⟩ (.int .i64 v2) := ⟨_, rfl⟩
  rw [← hZ] at RG QV QX ⊢
  clear hZ
  go_wp2_with fail
  refine (rdNumber R a n c p3 xs _ RG.A (RG.rdr H.out hne hR).b hn hp3 (RG.rdr H.out hne hR).e).mono ?_
  rintro e w3 (⟨v3, p4, hr3, rfl, hp4, hg, hA⟩ | ⟨hr3, ⟨T, pv, rfl⟩, hg⟩)
  case inr => exact ⟨rfl, .inr ⟨by unfold rneed; simp [hr0, hr1, hr2, hr3], ⟨_, _, rfl⟩, grown_trans RG.G hg⟩⟩
  replace RG := RG.num hg hA
  replace QV := QV.pk hg hRV
  replace QX := QX.pk hg hRX
  clear hg hA
  have c2 := QX.cell 2
  simp at c2
  have fX := QX.frozen
  have lX := QX.lt
  go_upto_region 6 with fail
  replace RG := RG.set hX hlR 2 (.int .i64 v3)
  replace QV := QV.other ⟨X, 2, none⟩ (.int .i64 v3) (by show w.heap.size ≠ X; omega)
  replace QX := QX.set 2 (.int .i64 v3)
  simp only [List.set_cons_zero, List.set_cons_succ] at QX
  clear c2 fX lX
  obtain ⟨z3, hZ⟩ : ∃ Z, Z = w3.setCell ⟨X, 2, none⟩ (.int .i64 v3) := ⟨_, rfl⟩
  rw [← hZ] at RG QV QX ⊢
  clear hZ
  have HRP : Hid (rneed xs p0 = some (⟨v0, v2, v3, v1⟩, p4)) := by unfold Hid rneed; simp [hr0, hr1, hr2, hr3]
  clear hr0 hr1 hr2 hr3
  have x0 := QX.cell 0
  have x1 := QX.cell 1
  have x2 := QX.cell 2
  have x3 := QX.cell 3
  simp at x0 x1 x2 x3
  have q0 := QV.cell 0
  have q1 := QV.cell 1
  have q2 := QV.cell 2
  have q3 := QV.cell 3
  simp at q0 q1 q2 q3
  have fQ := QV.frozen
  have lQ := QV.lt
  have HK : Hid _ := (((QV.set 0 (.int .i64 v0)).set 1 (.int .i64 v2)).set 2 (.int .i64 v3)).set 3 (.int .i64 v1)
  have HG : Hid _ := (((RG.set (Nat.le_refl _) hlR 0 (.int .i64 v0)).set (Nat.le_refl _) hlR 1 (.int .i64 v2)).set (Nat.le_refl _) hlR 2 (.int .i64 v3)).set (Nat.le_refl _) hlR 3 (.int .i64 v1)
  clear QV QX RG
  go_wp2
  exact bodyPost_ret (results_cell_row rfl _ _ w.heap.size 41 _ (0, 0) _ rfl HK.out Tryd.underlying41 rfl (by kernel_rfl)) rfl (.inl ⟨_, p4, HRP.out, rfl, hp4, HG.out.G, HG.out.A⟩)
end Go.Proofs.YtofflhhlacdgfaaDoor

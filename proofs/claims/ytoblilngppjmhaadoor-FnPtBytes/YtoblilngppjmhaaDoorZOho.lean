/-
  What is proved here: the contract of the program's PtOk; where its variables hold the prime and d.
-/
import Derived.Test.YtoblilngppjmhaaDoorZOg
import Derived.Test.YtoblilngppjmhaaDoorZJhi
import Derived.Test.YtoblilngppjmhaaDoorZUg
import Derived.Test.YtoblilngppjmhaaDoorZUi
import Derived.Test.YtoblilngppjmhaaDoorZJa
namespace Go.Proofs.YtoblilngppjmhaaDoor
open Go.RowKit
set_option maxRecDepth 100000

set_option maxHeartbeats 4000000 in
theorem implPtOk (a1 : Option Addr) (n1 c1 : Nat) (xs1 : List Int) (b1 : Option Addr) (m1 d1 : Nat) (ys1 : List Int) (w : World) (hx1 : Is w a1 n1 c1 xs1) (hy1 : Is w b1 m1 d1 ys1) (hV : Vr w 4 (I64 PL)) (hD : Vr w 2 (I64 DL)) :
    Calls Tryd.prog 18 #[.agg #[.slice a1 n1 c1, .slice b1 m1 d1]] w fun e w' => e = .returned (.bool (ptOk xs1 ys1)) ∧ Below w.heap.size w w' := by
  obtain ⟨p, hp⟩ : ∃ p, p = ptOk xs1 ys1 := ⟨_, rfl⟩
  obtain ⟨L, hL⟩ : ∃ l, l = opL xs1 ys1 := ⟨_, rfl⟩
  obtain ⟨P, hP⟩ : ∃ P, P = mk6 xs1 ys1 := ⟨_, rfl⟩
  have HO1 : Hid (∀ Z, Below w.heap.size w Z → Vr Z 4 (I64 PL) → Vr Z 2 (I64 DL) → Calls Tryd.prog 55 #[.agg #[.slice a1 n1 c1, .slice b1 m1 d1]] Z fun e w' => e = .returned (.tuple #[.agg (I64 L).toArray, .bool p]) ∧ Below Z.heap.size Z w') := by
    unfold Hid; intro Z hZ h1 h2; rw [hL, hp]; exact implPtOpen a1 n1 c1 xs1 b1 m1 d1 ys1 Z (hx1.below hZ) (hy1.below hZ) h1 h2
  have nL : L.length = 64 := by rw [hL]; exact opL_len _ _
  have iL : (Tryd.prog.info? 72).map (·.size) = some (I64 L).toArray.size := by simpa [nL] using infoLp
  have HLL : Hid (p = true → L = P.cells ∧ P.Ok) := by
    unfold Hid; intro h; rw [hp] at h; obtain ⟨k1, k2, _⟩ := (ptOk_iff _ _).1 h; rw [hL, hP]; unfold opL; rw [if_pos h]; exact ⟨rfl, mk6_ok k1 k2⟩
  rw [← hp]
  obtain ⟨W, hW⟩ : ∃ W, W = w.alloc (.cells #[.slice a1 n1 c1, .slice b1 m1 d1] 27) := ⟨_, rfl⟩
  have fr : Below w.heap.size w W := by rw [hW]; exact ((Below.refl _ _).alloc (Nat.le_refl _) _)
  have pa : Arr W w.heap.size 27 ([.slice a1 n1 c1, .slice b1 m1 d1]) := by
    rw [hW]
    have := Arr.new (w) ([.slice a1 n1 c1, .slice b1 m1 d1]) 27
    exact this
  have h0P := hV.lt
  have vP := hV.kept fr
  have h0D := hD.lt
  have vD := hD.kept fr
  clear hV hD
  clear hp hL hP hx1 hy1 HLL
  go_enter Tryd.func18, Tryd.ntmps18
  go_upto_region 1 with fail
  rw [← hW]
  clear hW
  go_wp2_with (refine wpList_load_row rfl 27 _ rfl w.heap.size rfl 27 ([Value.slice a1 n1 c1,  Value.slice b1 m1 d1]).toArray (0, 0) _ pa Tryd.underlying27 rfl infoPt ?_)
  refine (HO1.out _ fr vP vD).mono ?_
  rintro e y1 ⟨rfl, hb1⟩
  replace fr := fr.trans (hb1.mono fr.size)
  replace pa := pa.kept hb1
  replace vP := vP.kept hb1
  replace vD := vD.kept hb1
  clear hb1
  have hXL : w.heap.size < y1.heap.size ∧ w.heap.size ≤ y1.heap.size := ⟨pa.lt, fr.size⟩
  obtain ⟨bV, AL, q1⟩ := laid_lp y1 L
  replace fr := fr.trans (bV.mono fr.size)
  replace pa := pa.kept bV
  replace vP := vP.kept bV
  replace vD := vD.kept bV
  go_upto_region 2 with (refine wpList_store_row rfl 72 _ _ rfl y1.heap.size (I64 L).toArray rfl rfl 72 _ q1 iL (by simp [nL]) (by simp [Value.oneCell']) ?_)
  obtain ⟨V2, hVV⟩ : ∃ V, V = (y1.alloc (.cells #[.int .i64 0, .int .i64 0, .int .i64 0, .int .i64 0, .int .i64 0, .int .i64 0, .int .i64 0, .int .i64 0, .int .i64 0, .int .i64 0, .int .i64 0, .int .i64 0, .int .i64 0, .int .i64 0, .int .i64 0, .int .i64 0, .int .i64 0, .int .i64 0, .int .i64 0, .int .i64 0, .int .i64 0, .int .i64 0, .int .i64 0, .int .i64 0, .int .i64 0, .int .i64 0, .int .i64 0, .int .i64 0, .int .i64 0, .int .i64 0, .int .i64 0, .int .i64 0, .int .i64 0, .int .i64 0, .int .i64 0, .int .i64 0, .int .i64 0, .int .i64 0, .int .i64 0, .int .i64 0, .int .i64 0, .int .i64 0, .int .i64 0, .int .i64 0, .int .i64 0, .int .i64 0, .int .i64 0, .int .i64 0, .int .i64 0, .int .i64 0, .int .i64 0, .int .i64 0, .int .i64 0, .int .i64 0, .int .i64 0, .int .i64 0, .int .i64 0, .int .i64 0, .int .i64 0, .int .i64 0, .int .i64 0, .int .i64 0, .int .i64 0, .int .i64 0] 72)).setRow y1.heap.size (I64 L).toArray := ⟨_, rfl⟩
  obtain ⟨XL, hE⟩ : ∃ E, E = y1.heap.size := ⟨_, rfl⟩
  rw [← hVV] at fr pa vP vD AL ⊢
  rw [← hE] at AL hXL ⊢
  clear hVV hE q1 bV
  go_wp2
  go_ret
  exact ⟨rfl, fr⟩


end Go.Proofs.YtoblilngppjmhaaDoor

/-
  What is proved here: the contract of the program's PtBase; where its variables hold the base.
-/
import Derived.Test.YtoblilngppjmhaaDoorZOf
import Derived.Test.YtoblilngppjmhaaDoorZUg
import Derived.Test.YtoblilngppjmhaaDoorZUi
import Derived.Test.YtoblilngppjmhaaDoorZJa
namespace Go.Proofs.YtoblilngppjmhaaDoor
open Go.RowKit
set_option maxRecDepth 100000

set_option maxHeartbeats 4000000 in
theorem implPtBase (w : World) (hX : Vr w 0 (I64 BX)) (hY : Vr w 1 (I64 BY)) :
    Calls Tryd.prog 25 #[] w fun e w' => ∃ v, e = .returned v ∧ PtT 70 w w' v (BX) (BY) ∧ Below w.heap.size w w' := by
  have HC : Hid (∀ Z, Calls Tryd.prog 58 #[.agg (I64 BX).toArray, .agg (I64 BY).toArray] Z fun e w' => ∃ v, e = .returned v ∧ PtT 70 Z w' v BX BY ∧ Below Z.heap.size Z w') := by
    unfold Hid; intro Z; exact implPtOf BX BY Z rfl rfl
  have jX := infoL' BX_ok
  have jY := infoL' BY_ok
  obtain ⟨x, ex⟩ : ∃ x, x = BX := ⟨_, rfl⟩
  obtain ⟨y, ey⟩ : ∃ y, y = BY := ⟨_, rfl⟩
  have nx : x.length = 16 := by rw [ex]; rfl
  have ny : y.length = 16 := by rw [ey]; rfl
  rw [← ex, ← ey] at HC ⊢
  rw [← ex] at jX hX
  rw [← ey] at jY hY
  clear ex ey
  obtain ⟨W, hW⟩ : ∃ W, W = w.alloc (.cells #[.slice none 0 0, .slice none 0 0] 27) := ⟨_, rfl⟩
  have fr : Below w.heap.size w W := by rw [hW]; exact ((Below.refl _ _).alloc (Nat.le_refl _) _)
  have pr : Arr W w.heap.size 27 ([.slice none 0 0, .slice none 0 0]) := by
    rw [hW]
    have := Arr.new (w) ([.slice none 0 0, .slice none 0 0]) 27
    exact this
  have h0X := hX.lt
  have vX := hX.kept fr
  have h0Y := hY.lt
  have vY := hY.kept fr
  clear hX hY
  go_enter Tryd.func25, Tryd.ntmps25
  go_upto_region 1 with fail
  rw [← hW]
  clear hW
  obtain ⟨gt, gz, hg⟩ := vX
  obtain ⟨kt, kz, hk⟩ := vY
  go_wp2_with (first
      | (refine wpList_load_row rfl 70 _ rfl 0 rfl gt (I64 x).toArray gz _ hg Tryd.underlying70 rfl jX ?_)
      | (refine wpList_load_row rfl 70 _ rfl 1 rfl kt (I64 y).toArray kz _ hk Tryd.underlying70 rfl jY ?_))
  have hl : w.heap.size < W.heap.size := pr.lt
  refine (HC.out _).mono ?_
  rintro e y1 ⟨v, rfl, hpt, hb1⟩
  replace fr := fr.trans (hb1.mono fr.size)
  replace pr := pr.kept hb1
  clear hb1
  obtain ⟨aa, ca, ab, cb, rfl, oa, ob, hap⟩ := hpt
  rw [nx, ny] at hap ⊢
  rw [nx] at oa
  rw [ny] at ob
  have ia := In.of oa
  have ib := In.of ob
  have HB : Hid _ := setRow_below fr w.heap.size ([.slice aa 16 ca, .slice ab 16 cb]).toArray (by omega)
  have h2 := pr.row ([.slice aa 16 ca, .slice ab 16 cb])
  have oa2 := own_rowM oa ia (.inl hl) ([.slice aa 16 ca, .slice ab 16 cb]).toArray
  have ob2 := own_rowM ob ib (.inl hl) ([.slice aa 16 ca, .slice ab 16 cb]).toArray
  go_wp2_with (refine wpList_store_row rfl 27 _ _ rfl w.heap.size ([Value.slice aa 16 ca,  Value.slice ab 16 cb]).toArray rfl rfl 27 _ pr infoPt rfl (by simp [Value.oneCell']) ?_)
  exact bodyPost_ret (results_cell_row rfl _ _ w.heap.size 27 #[.slice aa 16 ca, .slice ab 16 cb] (0, 0) _ rfl h2 Tryd.underlying27 rfl infoPt) rfl ⟨_, rfl, ptT_16 nx ny (own_base oa2 (by omega)) (own_base ob2 (by omega)) hap, HB.out⟩

end Go.Proofs.YtoblilngppjmhaaDoor

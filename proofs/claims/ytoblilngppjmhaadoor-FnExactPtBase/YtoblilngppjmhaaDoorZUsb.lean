/-
  What is proved here: the contract of the specification's PtBase.
-/
import Derived.Test.YtoblilngppjmhaaDoorZUg
import Derived.Test.YtoblilngppjmhaaDoorZUi
import Derived.Test.YtoblilngppjmhaaDoorZJa
import Derived.Test.YtoblilngppjmhaaDoorZJhi
namespace Go.Proofs.YtoblilngppjmhaaDoor
open Go.RowKit
set_option maxRecDepth 100000

set_option maxHeartbeats 4000000 in
theorem specPtBase (w : World) :
    Calls Tryd.prog 36 #[] w fun e w' => ∃ v, e = .returned v ∧ PtT 3 w w' v (BX) (BY) ∧ Below w.heap.size w w' := by
  have HM : Hid (∀ Z, Calls Tryd.prog 87 #[] Z fun e w' => e = .returned (.agg (I64 base6.cells).toArray) ∧ Below Z.heap.size Z w') := by
    unfold Hid; intro Z; exact spec6base Z
  have HC : Hid (∀ Z, Calls Tryd.prog 86 #[.agg (I64 base6.cells).toArray] Z fun e w' => ∃ v, e = .returned v ∧ PtT 3 Z w' v (BX) (BY) ∧ Below Z.heap.size Z w') := by
    unfold Hid; intro Z; have h := spec6out base6 Z base6_ok; have k := flat_mk BX_ok BY_ok; rw [show flx base6 = BX from k.1, show fly base6 = BY from k.2] at h; exact h
  obtain ⟨x, ex⟩ : ∃ x, x = BX := ⟨_, rfl⟩
  obtain ⟨y, ey⟩ : ∃ y, y = BY := ⟨_, rfl⟩
  have nx : x.length = 16 := by rw [ex]; rfl
  have ny : y.length = 16 := by rw [ey]; rfl
  rw [← ex, ← ey] at HC ⊢
  obtain ⟨P, hPe⟩ : ∃ P, P = base6 := ⟨_, rfl⟩
  rw [← hPe] at HM HC
  clear ex ey hPe
  obtain ⟨W, hW⟩ : ∃ W, W = w.alloc (.cells #[.slice none 0 0, .slice none 0 0] 27) := ⟨_, rfl⟩
  have fr : Below w.heap.size w W := by rw [hW]; exact ((Below.refl _ _).alloc (Nat.le_refl _) _)
  have pr : Arr W w.heap.size 27 ([.slice none 0 0, .slice none 0 0]) := by
    rw [hW]
    have := Arr.new (w) ([.slice none 0 0, .slice none 0 0]) 27
    exact this
  go_enter Tryd.func36, Tryd.ntmps36
  go_upto_region 1 with fail
  rw [← hW]
  clear hW
  go_wp2_with fail
  refine (HM.out _).mono ?_
  rintro e y1 ⟨rfl, hb1⟩
  replace fr := fr.trans (hb1.mono fr.size)
  replace pr := pr.kept hb1
  clear hb1
  go_wp2_with fail
  have hl : w.heap.size < y1.heap.size := pr.lt
  refine (HC.out _).mono ?_
  rintro e y2 ⟨v, rfl, hpt, hb2⟩
  replace fr := fr.trans (hb2.mono fr.size)
  replace pr := pr.kept hb2
  clear hb2
  obtain ⟨aa, ca, ab, cb, rfl, oa, ob, hap⟩ := hpt
  rw [nx, ny] at hap ⊢
  rw [nx] at oa
  rw [ny] at ob
  have ia := In.of oa
  have ib := In.of ob
  have HB : Hid _ := setRow_below fr w.heap.size ([.slice aa 16 ca, .slice ab 16 cb]).toArray (by omega)
  have h2 := pr.row ([.slice aa 16 ca, .slice ab 16 cb])
  have oa2 := own_rowM oa ia (.inl hl) ([.slice aa 16 ca, .slice ab 16 cb]).toArray
  have ob2 := own_rowM ob ib (.inl hl) ([.slice aa 16 ca, .slice ab 16 cb]).toArray
  go_wp2_with (refine wpList_store_row rfl 27 _ _ rfl w.heap.size ([Value.slice aa 16 ca,  Value.slice ab 16 cb]).toArray rfl rfl 27 _ pr infoPt rfl (by simp [Value.oneCell']) ?_)
  exact bodyPost_ret (results_cell_row rfl _ _ w.heap.size 27 #[.slice aa 16 ca, .slice ab 16 cb] (0, 0) _ rfl h2 Tryd.underlying27 rfl infoPt) rfl ⟨_, rfl, ptT_16 nx ny (own_base oa2 (by omega)) (own_base ob2 (by omega)) hap, HB.out⟩

end Go.Proofs.YtoblilngppjmhaaDoor

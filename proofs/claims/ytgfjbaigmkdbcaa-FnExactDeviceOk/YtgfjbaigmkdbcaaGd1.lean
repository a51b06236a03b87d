/-
  What is proved here: what both sides' DeviceOk answer.
-/
import Derived.Test.YtgfjbaigmkdbcaaGd
import Derived.Test.YtgfjbaigmkdbcaaF9b
import Derived.Test.YtgfjbaigmkdbcaaF9d
import Derived.Test.YtgfjbaigmkdbcaaK1
import Derived.Test.YtgfjbaigmkdbcaaBg
import Derived.Deep.CutRange
namespace Go.Proofs.Ytgfjbaigmkdbcaa
open Go.RowKit
set_option maxRecDepth 100000
set_option maxHeartbeats 4000000
set_option linter.unusedVariables false

def dvOk (m : DeviceM) : Bool := decide (verOk m.i) && (kOk m.k && flOk m.f.b m.f.w)
theorem specDeviceOk (m : DeviceM) (p : DeviceA) (w : World) (h : DeviceRd w p m) (hs : DeviceSm m) :
    Calls Try.prog 48 #[devV m p] w fun e w' => e = .returned (.bool (dvOk m)) ∧ Below w.heap.size w w' := by
  obtain ⟨V, hV⟩ : ∃ V, V = w.alloc (.cells #[.int .i64 m.i, .slice p.k.a m.k.length p.k.c, .slice p.f.b.a m.f.b.length p.f.b.c, .slice p.f.w.a m.f.w.length p.f.w.c] 70) := ⟨_, rfl⟩
  have B : Below w.heap.size w V := by rw [hV]; exact (Below.refl _ _).alloc (Nat.le_refl _) _
  have A : Arr V w.heap.size 70 [.int .i64 m.i, .slice p.k.a m.k.length p.k.c, .slice p.f.b.a m.f.b.length p.f.b.c, .slice p.f.w.a m.f.w.length p.f.w.c] := by rw [hV]; exact Arr.new _ _ _
  have c0 := A.cell 0
  have c1 := A.cell 1
  have c2 := A.cell 2
  have c3 := A.cell 3
  simp at c0 c1 c2 c3
  have s1 := hs.f.b
  have s2 := hs.f.w
  have HK : Hid (∀ Z, Below w.heap.size w Z → Calls Try.prog 29 #[.slice p.k.a m.k.length p.k.c] Z fun e w' => e = .returned (.bool (kOk m.k)) ∧ Below Z.heap.size Z w') := fun Z hZ => spec8KeysOk _ _ _ m.k Z (h.k.below hZ)
  have HL : Hid (∀ Z, Below w.heap.size w Z → Calls Try.prog 113 #[flV p.f.b.a m.f.b.length p.f.b.c p.f.w.a m.f.w.length p.f.w.c] Z fun e w' => e = .returned (.bool (flOk m.f.b m.f.w)) ∧ Below Z.heap.size Z w') := fun Z hZ => specFlashOk _ _ _ _ _ _ m.f.b m.f.w Z (h.f.b.below hZ) (h.f.w.below hZ) (by omega) (by omega)
  obtain ⟨R, hR⟩ : ∃ R, R = dvOk m := ⟨_, rfl⟩
  rw [← hR]
  unfold dvOk at hR
  obtain ⟨K, hK⟩ : ∃ K, K = kOk m.k := ⟨_, rfl⟩
  obtain ⟨F, hF⟩ : ∃ F, F = flOk m.f.b m.f.w := ⟨_, rfl⟩
  rw [← hK] at HK hR
  rw [← hF] at HL hR
  have HR : Hid (R = (decide (verOk m.i) && (K && F))) := hR
  clear hR hK hF h hs s1 s2
  go_enter Try.func48, Try.ntmps48
  go_upto_region 1 with fail
  rw [← hV]
  clear hV
  go_wp2_with fail
  refine (spec8version m.i _).mono ?_
  rintro e w1 ⟨rfl, hw⟩
  rw [hw]
  clear hw
  by_cases h1 : verOk m.i
  case neg =>
    rw [decide_eq_false h1] at HR ⊢
    clear HK HL
    go_wp2
    go_ret
    exact ⟨by rw [HR.out]; rfl, B⟩
  rw [decide_eq_true h1] at HR ⊢
  go_wp2_with fail
  refine Calls.mono (HK.out _ B) ?_
  rintro e w2 ⟨rfl, hb⟩
  replace A := A.kept hb
  replace B := B.trans (hb.mono B.size)
  clear hb c0 c1 c2 c3 HK
  have c2 := A.cell 2
  have c3 := A.cell 3
  simp at c2 c3
  cases K with
  | false =>
    clear HL
    go_wp2
    go_ret
    exact ⟨by rw [HR.out]; rfl, B⟩
  | true =>
    go_wp2_with fail
    refine Calls.mono (HL.out _ B) ?_
    rintro e w3 ⟨rfl, hb⟩
    replace B := B.trans (hb.mono B.size)
    clear hb c2 c3 HL A
    have HQ : Hid (R = F) := by unfold Hid; rw [HR.out]; rfl
    clear HR
    go_wp2
    go_ret
    exact ⟨by rw [HQ.out]; rfl, B⟩
theorem implDeviceOk (m : DeviceM) (p : DeviceA) (w : World) (h : DeviceRd w p m) (hs : DeviceSm m) :
    Calls Try.prog 50 #[devV m p] w fun e w' => e = .returned (.bool (dvOk m)) ∧ Below w.heap.size w w' := by
  obtain ⟨V, hV⟩ : ∃ V, V = w.alloc (.cells #[.int .i64 m.i, .slice p.k.a m.k.length p.k.c, .slice p.f.b.a m.f.b.length p.f.b.c, .slice p.f.w.a m.f.w.length p.f.w.c] 70) := ⟨_, rfl⟩
  have B : Below w.heap.size w V := by rw [hV]; exact (Below.refl _ _).alloc (Nat.le_refl _) _
  have A : Arr V w.heap.size 70 [.int .i64 m.i, .slice p.k.a m.k.length p.k.c, .slice p.f.b.a m.f.b.length p.f.b.c, .slice p.f.w.a m.f.w.length p.f.w.c] := by rw [hV]; exact Arr.new _ _ _
  have c0 := A.cell 0
  have c1 := A.cell 1
  have c2 := A.cell 2
  have c3 := A.cell 3
  simp at c0 c1 c2 c3
  have s1 := hs.f.b
  have s2 := hs.f.w
  have HK : Hid (∀ Z, Below w.heap.size w Z → Calls Try.prog 31 #[.slice p.k.a m.k.length p.k.c] Z fun e w' => e = .returned (.bool (kOk m.k)) ∧ Below Z.heap.size Z w') := fun Z hZ => implKeysOk _ _ _ m.k Z (h.k.below hZ)
  have HL : Hid (∀ Z, Below w.heap.size w Z → Calls Try.prog 115 #[flV p.f.b.a m.f.b.length p.f.b.c p.f.w.a m.f.w.length p.f.w.c] Z fun e w' => e = .returned (.bool (flOk m.f.b m.f.w)) ∧ Below Z.heap.size Z w') := fun Z hZ => implFlashOk _ _ _ _ _ _ m.f.b m.f.w Z (h.f.b.below hZ) (h.f.w.below hZ) (by omega) (by omega)
  obtain ⟨R, hR⟩ : ∃ R, R = dvOk m := ⟨_, rfl⟩
  rw [← hR]
  unfold dvOk at hR
  obtain ⟨K, hK⟩ : ∃ K, K = kOk m.k := ⟨_, rfl⟩
  obtain ⟨F, hF⟩ : ∃ F, F = flOk m.f.b m.f.w := ⟨_, rfl⟩
  rw [← hK] at HK hR
  rw [← hF] at HL hR
  have HR : Hid (R = (decide (verOk m.i) && (K && F))) := hR
  clear hR hK hF h hs s1 s2
  go_enter Try.func50, Try.ntmps50
  go_upto_region 1 with fail
  rw [← hV]
  clear hV
  go_wp2_with fail
  refine (implIsVersion m.i _).mono ?_
  rintro e w1 ⟨rfl, hw⟩
  rw [hw]
  clear hw
  by_cases h1 : verOk m.i
  case neg =>
    rw [decide_eq_false h1] at HR ⊢
    clear HK HL
    go_wp2
    go_ret
    exact ⟨by rw [HR.out]; rfl, B⟩
  rw [decide_eq_true h1] at HR ⊢
  go_wp2_with fail
  refine Calls.mono (HK.out _ B) ?_
  rintro e w2 ⟨rfl, hb⟩
  replace A := A.kept hb
  replace B := B.trans (hb.mono B.size)
  clear hb c0 c1 c2 c3 HK
  have c2 := A.cell 2
  have c3 := A.cell 3
  simp at c2 c3
  cases K with
  | false =>
    clear HL
    go_wp2
    go_ret
    exact ⟨by rw [HR.out]; rfl, B⟩
  | true =>
    go_wp2_with fail
    refine Calls.mono (HL.out _ B) ?_
    rintro e w3 ⟨rfl, hb⟩
    replace B := B.trans (hb.mono B.size)
    clear hb c2 c3 HL A
    have HQ : Hid (R = F) := by unfold Hid; rw [HR.out]; rfl
    clear HR
    go_wp2
    go_ret
    exact ⟨by rw [HQ.out]; rfl, B⟩
end Go.Proofs.Ytgfjbaigmkdbcaa

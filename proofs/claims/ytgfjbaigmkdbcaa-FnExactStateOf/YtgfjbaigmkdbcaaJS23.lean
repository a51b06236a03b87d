/-
  What is proved here: what both sides' DeviceOk answer; what the specification's l11active, l11boot and StateOf answer.
-/
import Derived.Test.YtgfjbaigmkdbcaaJS21
import Derived.Test.YtgfjbaigmkdbcaaJS22
import Derived.Test.YtgfjbaigmkdbcaaBg
import Derived.Deep.CutRange
import Derived.Test.YtgfjbaigmkdbcaaJS12
namespace Go.Proofs.Ytgfjbaigmkdbcaa
open Go.RowKit
set_option maxRecDepth 100000
set_option maxHeartbeats 4000000
set_option linter.unusedVariables false

def dvOk (m : DeviceM) : Bool := decide (verOk m.i) && (kOk m.k && flOk m.f.b m.f.w)
theorem specDeviceOk (m : DeviceM) (p : DeviceA) (w : World) (h : DeviceRd w p m) (hs : DeviceSm m) :
    Calls Try.prog 48 #[devV m p] w fun e w' => e = .returned (.bool (dvOk m)) ∧ Below w.heap.size w w' := by
  obtain ⟨V, hV⟩ : ∃ V, V = w.alloc (.cells #[.int .i64 m.i, .slice p.k.a m.k.length p.k.c, .slice p.f.b.a m.f.b.length p.f.b.c, .slice p.f.w.a m.f.w.length p.f.w.c] 70) := ⟨_, rfl⟩
  have B : Below w.heap.size w V := by rw [hV]; exact (Below.refl _ _).alloc (Nat.le_refl _) _
  have A : Arr V w.heap.size 70 [.int .i64 m.i, .slice p.k.a m.k.length p.k.c, .slice p.f.b.a m.f.b.length p.f.b.c, .slice p.f.w.a m.f.w.length p.f.w.c] := by rw [hV]; exact Arr.new _ _ _
  have c0 := A.cell 0
  have c1 := A.cell 1
  have c2 := A.cell 2
  have c3 := A.cell 3
  simp at c0 c1 c2 c3
  have s1 := hs.f.b
  have s2 := hs.f.w
  have HK : Hid (∀ Z, Below w.heap.size w Z → Calls Try.prog 29 #[.slice p.k.a m.k.length p.k.c] Z fun e w' => e = .returned (.bool (kOk m.k)) ∧ Below Z.heap.size Z w') := fun Z hZ => spec8KeysOk _ _ _ m.k Z (h.k.below hZ)
  have HL : Hid (∀ Z, Below w.heap.size w Z → Calls Try.prog 113 #[flV p.f.b.a m.f.b.length p.f.b.c p.f.w.a m.f.w.length p.f.w.c] Z fun e w' => e = .returned (.bool (flOk m.f.b m.f.w)) ∧ Below Z.heap.size Z w') := fun Z hZ => specFlashOk _ _ _ _ _ _ m.f.b m.f.w Z (h.f.b.below hZ) (h.f.w.below hZ) (by omega) (by omega)
  obtain ⟨R, hR⟩ : ∃ R, R = dvOk m := ⟨_, rfl⟩
  rw [← hR]
  unfold dvOk at hR
  obtain ⟨K, hK⟩ : ∃ K, K = kOk m.k := ⟨_, rfl⟩
  obtain ⟨F, hF⟩ : ∃ F, F = flOk m.f.b m.f.w := ⟨_, rfl⟩
  rw [← hK] at HK hR
  rw [← hF] at HL hR
  have HR : Hid (R = (decide (verOk m.i) && (K && F))) := hR
  clear hR hK hF h hs s1 s2
  go_enter Try.func48, Try.ntmps48
  go_upto_region 1 with fail
  rw [← hV]
  clear hV
  go_wp2_with fail
  refine (spec8version m.i _).mono ?_
  rintro e w1 ⟨rfl, hw⟩
  rw [hw]
  clear hw
  by_cases h1 : verOk m.i
  case neg =>
    rw [decide_eq_false h1] at HR ⊢
    clear HK HL
    go_wp2
    go_ret
    exact ⟨by rw [HR.out]; rfl, B⟩
  rw [decide_eq_true h1] at HR ⊢
  go_wp2_with fail
  refine Calls.mono (HK.out _ B) ?_
  rintro e w2 ⟨rfl, hb⟩
  replace A := A.kept hb
  replace B := B.trans (hb.mono B.size)
  clear hb c0 c1 c2 c3 HK
  have c2 := A.cell 2
  have c3 := A.cell 3
  simp at c2 c3
  cases K with
  | false =>
    clear HL
    go_wp2
    go_ret
    exact ⟨by rw [HR.out]; rfl, B⟩
  | true =>
    go_wp2_with fail
    refine Calls.mono (HL.out _ B) ?_
    rintro e w3 ⟨rfl, hb⟩
    replace B := B.trans (hb.mono B.size)
    clear hb c2 c3 HL A
    have HQ : Hid (R = F) := by unfold Hid; rw [HR.out]; rfl
    clear HR
    go_wp2
    go_ret
    exact ⟨by rw [HQ.out]; rfl, B⟩
theorem implDeviceOk (m : DeviceM) (p : DeviceA) (w : World) (h : DeviceRd w p m) (hs : DeviceSm m) :
    Calls Try.prog 50 #[devV m p] w fun e w' => e = .returned (.bool (dvOk m)) ∧ Below w.heap.size w w' := by
  obtain ⟨V, hV⟩ : ∃ V, V = w.alloc (.cells #[.int .i64 m.i, .slice p.k.a m.k.length p.k.c, .slice p.f.b.a m.f.b.length p.f.b.c, .slice p.f.w.a m.f.w.length p.f.w.c] 70) := ⟨_, rfl⟩
  have B : Below w.heap.size w V := by rw [hV]; exact (Below.refl _ _).alloc (Nat.le_refl _) _
  have A : Arr V w.heap.size 70 [.int .i64 m.i, .slice p.k.a m.k.length p.k.c, .slice p.f.b.a m.f.b.length p.f.b.c, .slice p.f.w.a m.f.w.length p.f.w.c] := by rw [hV]; exact Arr.new _ _ _
  have c0 := A.cell 0
  have c1 := A.cell 1
  have c2 := A.cell 2
  have c3 := A.cell 3
  simp at c0 c1 c2 c3
  have s1 := hs.f.b
  have s2 := hs.f.w
  have HK : Hid (∀ Z, Below w.heap.size w Z → Calls Try.prog 31 #[.slice p.k.a m.k.length p.k.c] Z fun e w' => e = .returned (.bool (kOk m.k)) ∧ Below Z.heap.size Z w') := fun Z hZ => implKeysOk _ _ _ m.k Z (h.k.below hZ)
  have HL : Hid (∀ Z, Below w.heap.size w Z → Calls Try.prog 115 #[flV p.f.b.a m.f.b.length p.f.b.c p.f.w.a m.f.w.length p.f.w.c] Z fun e w' => e = .returned (.bool (flOk m.f.b m.f.w)) ∧ Below Z.heap.size Z w') := fun Z hZ => implFlashOk _ _ _ _ _ _ m.f.b m.f.w Z (h.f.b.below hZ) (h.f.w.below hZ) (by omega) (by omega)
  obtain ⟨R, hR⟩ : ∃ R, R = dvOk m := ⟨_, rfl⟩
  rw [← hR]
  unfold dvOk at hR
  obtain ⟨K, hK⟩ : ∃ K, K = kOk m.k := ⟨_, rfl⟩
  obtain ⟨F, hF⟩ : ∃ F, F = flOk m.f.b m.f.w := ⟨_, rfl⟩
  rw [← hK] at HK hR
  rw [← hF] at HL hR
  have HR : Hid (R = (decide (verOk m.i) && (K && F))) := hR
  clear hR hK hF h hs s1 s2
  go_enter Try.func50, Try.ntmps50
  go_upto_region 1 with fail
  rw [← hV]
  clear hV
  go_wp2_with fail
  refine (implIsVersion m.i _).mono ?_
  rintro e w1 ⟨rfl, hw⟩
  rw [hw]
  clear hw
  by_cases h1 : verOk m.i
  case neg =>
    rw [decide_eq_false h1] at HR ⊢
    clear HK HL
    go_wp2
    go_ret
    exact ⟨by rw [HR.out]; rfl, B⟩
  rw [decide_eq_true h1] at HR ⊢
  go_wp2_with fail
  refine Calls.mono (HK.out _ B) ?_
  rintro e w2 ⟨rfl, hb⟩
  replace A := A.kept hb
  replace B := B.trans (hb.mono B.size)
  clear hb c0 c1 c2 c3 HK
  have c2 := A.cell 2
  have c3 := A.cell 3
  simp at c2 c3
  cases K with
  | false =>
    clear HL
    go_wp2
    go_ret
    exact ⟨by rw [HR.out]; rfl, B⟩
  | true =>
    go_wp2_with fail
    refine Calls.mono (HL.out _ B) ?_
    rintro e w3 ⟨rfl, hb⟩
    replace B := B.trans (hb.mono B.size)
    clear hb c2 c3 HL A
    have HQ : Hid (R = F) := by unfold Hid; rw [HR.out]; rfl
    clear HR
    go_wp2
    go_ret
    exact ⟨by rw [HQ.out]; rfl, B⟩
end Go.Proofs.Ytgfjbaigmkdbcaa
namespace Go.Proofs.Ytgfjbaigmkdbcaa
open Go.RowKit
set_option maxRecDepth 100000
set_option maxHeartbeats 4000000
set_option linter.unusedVariables false

theorem acT_succ (xs : List Int) (k : Nat) : acT xs (k + 1) = if ((gOkB (pl (hf xs k) 0) = true ∧ goK (pl (hf xs k) 0) = 1) ∧ (foL (scR (hf xs k) 32)).2 = true) ∧ (acT xs k).2.1 < goN (pl (hf xs k) 0) then ((k : Int), goN (pl (hf xs k) 0), scR (hf xs k) 32) else acT xs k := by
  show (if cntB (hf xs k) = true ∧ (acT xs k).2.1 < hdN (hf xs k) then ((k : Int), hdN (hf xs k), scR (hf xs k) 32) else acT xs k) = _
  unfold cntB hdN
  by_cases g : gOkB (pl (hf xs k) 0) = true
  · have e1 : goK (pl (hf xs k) 0) = gK (pl (hf xs k) 0) := if_pos g
    have e2 : goN (pl (hf xs k) 0) = gN (pl (hf xs k) 0) := if_pos g
    rw [e1, e2, g]
    simp [and_assoc]
  · have g' : gOkB (pl (hf xs k) 0) = false := by simpa using g
    rw [g']
    simp
theorem own_mono {w : World} {base base' : Nat} {e : TypeId} {size : Nat} {v : Value} {n : Nat} {xs : List Value} (h : w.ownsRow base e size v n xs) (hb : base' ≤ base) : w.ownsRow base' e size v n xs :=
  ⟨h.1, h.2.imp id fun ⟨g, cap, cur, h1, h2, h3⟩ => ⟨g, cap, cur, h1, Nat.le_trans hb h2, h3⟩⟩
theorem specHalf2 (b o cb : Nat) (aw : Option Addr) (nw cw : Nat) (xs : List Int) (k : Nat) (w : World) (h : Bs w (some ⟨b, o, none⟩) 3072 cb xs) (hk : k < 2) :
    Calls Try.prog 159 #[flV (some ⟨b, o, none⟩) 3072 cb aw nw cw, .int .i64 (k : Int)] w fun e w' => e = .returned (.slice (some ⟨b, o + (2560 + 256 * k), none⟩) 256 (cb - (2560 + 256 * k))) ∧ Below w.heap.size w w' :=
  (specHalf _ _ _ aw nw cw xs k w h rfl hk).mono (by
    rintro e w' ⟨b', o', e1, e2, hb⟩
    cases e1
    exact ⟨e2, hb⟩)
theorem bs_place {w : World} {b o c k : Nat} {xs : List Int} (h : Bs w (some ⟨b, o, none⟩) 3072 c xs) (hk : k < 2) : Bs w (some ⟨b, o + (2560 + 256 * k), none⟩) 8 (c - (2560 + 256 * k)) (pl (hf xs k) 0) := by
  have := bs_pl (bs_hf h hk) (show 0 < 32 by omega)
  simpa using this
theorem specL11active (ab : Option Addr) (nb cb : Nat) (aw : Option Addr) (nw cw : Nat) (xs : List Int) (w : World) (h : Bs w ab nb cb xs) (hn : nb = 3072) :
    Calls Try.prog 148 #[flV ab nb cb aw nw cw] w fun e w' => ∃ (v : Value) (z : Int), e = .returned (.tuple #[.int .i64 (acT xs 2).1, v, .int .i64 z]) ∧ w'.ownsRow w.heap.size 144 4 v (acT xs 2).2.2.length (FL (acT xs 2).2.2) ∧ Below w.heap.size w w' := by
  subst hn
  obtain ⟨b, o, rfl, hbw⟩ : ∃ b o, ab = some ⟨b, o, none⟩ ∧ b < w.heap.size := by
    rcases h.2.2.2.2 with hr | ⟨b, o, rfl, hlt, _⟩
    · omega
    · exact ⟨b, o, rfl, hlt⟩
  have hcb := h.2.2.1
  obtain ⟨V, hV⟩ : ∃ V, V = w.alloc (.cells #[.slice (some ⟨b, o, none⟩) 3072 cb, .slice aw nw cw] 68) := ⟨_, rfl⟩
  have B : Below w.heap.size w V := by rw [hV]; exact (Below.refl _ _).alloc (Nat.le_refl _) _
  have A : Arr V w.heap.size 68 [.slice (some ⟨b, o, none⟩) 3072 cb, .slice aw nw cw] := by rw [hV]; exact Arr.new _ _ _
  obtain ⟨G, hG⟩ : ∃ G, G = w.heap.size := ⟨_, rfl⟩
  have HG : Hid (G = w.heap.size) := hG
  have HH : Hid (∀ Z, Below w.heap.size w Z → Bs Z (some ⟨b, o, none⟩) 3072 cb xs) := fun Z hZ => h.below hZ
  rw [← hG] at A
  clear h
  go_enter Try.func148, Try.ntmps148
  go_upto_region 1 with fail
  rw [← hV]
  rw [← hG]
  clear hV hG
  go_wp2
  go_loopw [5, 6, 7, 8, 9] (fun bv mv v u i wr => ∃ k : Nat, k ≤ 2 ∧ i = .int .i64 k ∧ bv = .int .i64 (acT xs k).1 ∧ mv = .int .i64 (acT xs k).2.1 ∧ (∃ z : Int, u = .int .i64 z) ∧ Hid (wr.ownsRow w.heap.size 144 4 v (acT xs k).2.2.length (FL (acT xs k).2.2)) ∧ Arr wr G 68 [.slice (some ⟨b, o, none⟩) 3072 cb, .slice aw nw cw] ∧ Below w.heap.size w wr) (fun _ _ _ _ i _ => 2 - (intOf i).toNat)
  case atStart => exact ⟨0, by omega, rfl, rfl, rfl, ⟨0, rfl⟩, World.ownsRow_nil _ _ _ _, A, B⟩
  case round =>
    clear A B
    obtain ⟨k, hk, rfl, rfl, rfl, ⟨z, rfl⟩, HO, A, B⟩ := hrel
    by_cases hlt : k < 2
    · have hltI : (k : Int) < 2 := by omega
      have HT : Hid _ := acT_succ xs k
      obtain ⟨T, hT⟩ : ∃ T, T = acT xs k := ⟨_, rfl⟩
      rw [← hT] at HT HO ⊢
      clear hT
      obtain ⟨bst, mst, lst⟩ := T
      dsimp only at HO ⊢
      have c0 := A.cell 0
      have c1 := A.cell 1
      simp at c0 c1
      go_wp2_with fail
      refine (specHalf2 b o cb aw nw cw xs k _ (HH.out _ B) hlt).mono ?_
      rintro e w1 ⟨rfl, hb⟩
      replace A := A.kept hb
      replace B := B.trans (hb.mono B.size)
      replace HO : Hid (w1.ownsRow w.heap.size 144 4 u7 lst.length (FL lst)) := own_below HO.out hb
      clear hb c0 c1
      have HL : Hid (∀ Z, Below w.heap.size w Z → Calls Try.prog 108 #[.slice (some ⟨b, o + (2560 + 256 * k), none⟩) 256 (cb - (2560 + 256 * k))] Z fun e w' => ∃ v, e = .returned (.tuple #[v, .int .i64 (scU (hf xs k) 32 : Nat)]) ∧ w'.ownsRow Z.heap.size 144 4 v (scR (hf xs k) 32).length (FL (scR (hf xs k) 32)) ∧ Below Z.heap.size Z w') := fun Z hZ => specL10scan _ _ _ _ Z (bs_hf (HH.out Z hZ) hlt)
      have HGt : Hid (∀ Z, Below w.heap.size w Z → Calls Try.prog 138 #[.slice (some ⟨b, o + (2560 + 256 * k), none⟩) 8 (cb - (2560 + 256 * k))] Z fun e w' => e = .returned (goV (pl (hf xs k) 0)) ∧ Below Z.heap.size Z w') := fun Z hZ => specL10get _ _ _ _ Z (bs_place (HH.out Z hZ) hlt) rfl
      obtain ⟨C, hC⟩ : ∃ C, C = cb - (2560 + 256 * k) := ⟨_, rfl⟩
      have hC8 : (8 : Int) ≤ (C : Int) := by omega
      have HS : Hid (∀ Z, Below w.heap.size w Z → Calls Try.prog 159 #[flV (some ⟨b, o, none⟩) 3072 cb aw nw cw, .int .i64 (k : Int)] Z fun e w' => e = .returned (.slice (some ⟨b, o + (2560 + 256 * k), none⟩) 256 (cb - (2560 + 256 * k))) ∧ Below Z.heap.size Z w') := fun Z hZ => specHalf2 b o cb aw nw cw xs k Z (HH.out Z hZ) hlt
      rw [← hC] at HL HGt HS ⊢
      obtain ⟨P, hP⟩ : ∃ P, P = o + (2560 + 256 * k) := ⟨_, rfl⟩
      rw [← hP] at HL HGt HS ⊢
      clear hC hP
      have hle := scR_le (hf xs k) 32
      have HA : Hid _ := scR_all (hf xs k) 32
      obtain ⟨L, hL⟩ : ∃ L, L = scR (hf xs k) 32 := ⟨_, rfl⟩
      obtain ⟨U, hU⟩ : ∃ U : Nat, U = scU (hf xs k) 32 := ⟨_, rfl⟩
      rw [← hL] at HL HT hle HA
      rw [← hU] at HL
      clear hL hU
      go_wp2_with fail
      refine Calls.mono (HL.out _ B) ?_
      rintro e w2 ⟨v2, rfl, O2, hb⟩
      replace A := A.kept hb
      replace O2 := own_mono O2 B.size
      replace B := B.trans (hb.mono B.size)
      replace HO : Hid (w2.ownsRow w.heap.size 144 4 u7 lst.length (FL lst)) := own_below HO.out hb
      obtain ⟨va, vc, rfl, _, _⟩ := Rs.own O2
      have HN : Hid (w2.ownsRow w.heap.size 144 4 (.slice va L.length vc) L.length (FL L)) := O2
      clear hb HL O2
      have c0 := A.cell 0
      have c1 := A.cell 1
      simp at c0 c1
      go_wp2_with fail
      refine Calls.mono (HS.out _ B) ?_
      rintro e w3 ⟨rfl, hb⟩
      replace A := A.kept hb
      replace B := B.trans (hb.mono B.size)
      replace HO : Hid (w3.ownsRow w.heap.size 144 4 u7 lst.length (FL lst)) := own_below HO.out hb
      replace HN : Hid (w3.ownsRow w.heap.size 144 4 (.slice va L.length vc) L.length (FL L)) := own_below HN.out hb
      clear hb HS c0 c1
      go_wp2_with fail
      refine Calls.mono (HGt.out _ B) ?_
      rintro e w4 ⟨rfl, hb⟩
      replace A := A.kept hb
      replace B := B.trans (hb.mono B.size)
      replace HO : Hid (w4.ownsRow w.heap.size 144 4 u7 lst.length (FL lst)) := own_below HO.out hb
      replace HN : Hid (w4.ownsRow w.heap.size 144 4 (.slice va L.length vc) L.length (FL L)) := own_below HN.out hb
      clear hb HGt
      unfold goV
      obtain ⟨gk, hgk⟩ : ∃ q, q = goK (pl (hf xs k) 0) := ⟨_, rfl⟩
      obtain ⟨gb, hgb⟩ : ∃ q, q = goB (pl (hf xs k) 0) := ⟨_, rfl⟩
      obtain ⟨gn, hgn⟩ : ∃ q, q = goN (pl (hf xs k) 0) := ⟨_, rfl⟩
      obtain ⟨gf, hgf⟩ : ∃ q, q = goF (pl (hf xs k) 0) := ⟨_, rfl⟩
      obtain ⟨ok, hok⟩ : ∃ q, q = gOkB (pl (hf xs k) 0) := ⟨_, rfl⟩
      rw [← hgk, ← hgn, ← hok] at HT
      rw [← hgk, ← hgb, ← hgn, ← hgf, ← hok]
      clear hgk hgb hgn hgf hok
      obtain ⟨X, hX⟩ : ∃ X, X = w4.alloc (.cells #[.int .i64 gk, .int .i64 gb, .int .i64 gn, .int .i64 gf] 144) := ⟨_, rfl⟩
      have hb : Below w4.heap.size w4 X := by rw [hX]; exact (Below.refl _ _).alloc (Nat.le_refl _) _
      have R : Arr X w4.heap.size 144 [.int .i64 gk, .int .i64 gb, .int .i64 gn, .int .i64 gf] := by rw [hX]; exact Arr.new _ _ _
      replace A := A.kept hb
      replace B := B.trans (hb.mono B.size)
      replace HO : Hid (X.ownsRow w.heap.size 144 4 u7 lst.length (FL lst)) := own_below HO.out hb
      replace HN : Hid (X.ownsRow w.heap.size 144 4 (.slice va L.length vc) L.length (FL L)) := own_below HN.out hb
      clear hb
      obtain ⟨g, hg⟩ : ∃ g, g = w4.heap.size := ⟨_, rfl⟩
      rw [← hg] at R
      go_upto_region 9 with fail
      rw [← hX]
      rw [← hg]
      clear hX hg
      go_wp2_with fail
      refine (specL10fold va L.length vc L _ (rs_of_own HN.out) (by omega) HA.out).mono ?_
      rintro e w5 ⟨rfl, hb⟩
      replace A := A.kept hb
      replace R := R.kept hb
      replace B := B.trans (hb.mono B.size)
      replace HO : Hid (w5.ownsRow w.heap.size 144 4 u7 lst.length (FL lst)) := own_below HO.out hb
      replace HN : Hid (w5.ownsRow w.heap.size 144 4 (.slice va L.length vc) L.length (FL L)) := own_below HN.out hb
      clear hb HA
      obtain ⟨S, hS⟩ : ∃ S, S = foL L := ⟨_, rfl⟩
      rw [← hS] at HT ⊢
      clear hS
      obtain ⟨⟨sb, sn, sf, st, si, so⟩, q⟩ := S
      dsimp only [stV, btW]
      dsimp only at HT
      obtain ⟨Y, hY⟩ : ∃ Y, Y = w5.alloc (.cells #[.int .i64 sb, .int .i64 sn, .int .i64 sf, .bool st, .int .i64 si, .int .i64 so] 83) := ⟨_, rfl⟩
      have hb : Below w5.heap.size w5 Y := by rw [hY]; exact (Below.refl _ _).alloc (Nat.le_refl _) _
      replace A := A.kept hb
      replace R := R.kept hb
      replace B := B.trans (hb.mono B.size)
      replace HO : Hid (Y.ownsRow w.heap.size 144 4 u7 lst.length (FL lst)) := own_below HO.out hb
      replace HN : Hid (Y.ownsRow w.heap.size 144 4 (.slice va L.length vc) L.length (FL L)) := own_below HN.out hb
      clear hb
      go_upto_region 10 with fail
      rw [← hY]
      clear hY
      have r0 := R.cell 0
      have r2 := R.cell 2
      simp at r0 r2
      clear R
      have hw : IntKind.i64.wrap ((k : Int) + 1) = (k : Int) + 1 := wr64 (by omega) (by omega)
      cases ok
      case false =>
        have HE : Hid _ := HT.out.trans (if_neg (fun h => by cases h.1.1.1))
        clear HT
        go_wp2
        go_roundw
        case rel => exact ⟨k + 1, by omega, by go_num, by rw [HE.out], by rw [HE.out], ⟨_, rfl⟩, by rw [HE.out]; exact HO, A, B⟩
        case measure => simp [intOf]; omega
      by_cases h1 : gk = 1
      case neg =>
        have HE : Hid _ := HT.out.trans (if_neg (fun h => h1 h.1.1.2))
        have h1' : (gk == 1) = false := by simpa using h1
        clear HT h1
        go_wp2
        go_roundw
        case rel => exact ⟨k + 1, by omega, by go_num, by rw [HE.out], by rw [HE.out], ⟨_, rfl⟩, by rw [HE.out]; exact HO, A, B⟩
        case measure => simp [intOf]; omega
      subst h1
      cases q
      case false =>
        have HE : Hid _ := HT.out.trans (if_neg (fun h => by cases h.1.2))
        clear HT
        go_wp2
        go_roundw
        case rel => exact ⟨k + 1, by omega, by go_num, by rw [HE.out], by rw [HE.out], ⟨_, rfl⟩, by rw [HE.out]; exact HO, A, B⟩
        case measure => simp [intOf]; omega
      by_cases h2 : mst < gn
      case neg =>
        have HE : Hid _ := HT.out.trans (if_neg (fun h => h2 h.2))
        clear HT
        go_wp2
        go_roundw
        case rel => exact ⟨k + 1, by omega, by go_num, by rw [HE.out], by rw [HE.out], ⟨_, rfl⟩, by rw [HE.out]; exact HO, A, B⟩
        case measure => simp [intOf]; omega
      · have HE : Hid _ := HT.out.trans (if_pos ⟨⟨⟨rfl, rfl⟩, rfl⟩, h2⟩)
        clear HT
        go_wp2
        go_roundw
        case rel => exact ⟨k + 1, by omega, by go_num, by rw [HE.out], by rw [HE.out], ⟨_, rfl⟩, by rw [HE.out]; exact HN, A, B⟩
        case measure => simp [intOf]; omega
    · have hkn : k = 2 := by omega
      subst hkn
      have hlt' : ¬ (((2 : Nat) : Int) < 2) := by omega
      go_wp2
      go_ret3
      exact ⟨_, ⟨_, rfl⟩, HO.out, B⟩
end Go.Proofs.Ytgfjbaigmkdbcaa

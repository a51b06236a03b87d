/-
  What is proved here: what the specification's l11boot and StateOf answer; what the program's StateOf answers.
-/
import Derived.Test.YtgfjbaigmkdbcaaJS23
import Derived.Test.YtgfjbaigmkdbcaaLg6
namespace Go.Proofs.Ytgfjbaigmkdbcaa
open Go.RowKit
set_option maxRecDepth 100000
set_option maxHeartbeats 4000000
set_option linter.unusedVariables false

theorem specL11boot (ab : Option Addr) (nb cb : Nat) (aw : Option Addr) (nw cw : Nat) (xs : List Int) (w : World) (h : Bs w ab nb cb xs) (hn : nb = 3072) :
    Calls Try.prog 119 #[flV ab nb cb aw nw cw] w fun e w' => e = .returned (stV (bootT xs)) ∧ Below w.heap.size w w' := by
  obtain ⟨S, hS⟩ : ∃ S, bootT xs = S := ⟨_, rfl⟩
  rw [hS]
  unfold bootT at hS
  obtain ⟨V, hV⟩ : ∃ V, V = (w.alloc (.cells #[.slice ab nb cb, .slice aw nw cw] 68)).alloc (.cells #[.int .i64 0, .int .i64 0, .int .i64 0, .bool false, .int .i64 0, .int .i64 0] 83) := ⟨_, rfl⟩
  have B : Below w.heap.size w V := by rw [hV]; exact ((Below.refl _ _).alloc (Nat.le_refl _) _).alloc (by simp) _
  have A : Arr V w.heap.size 68 [.slice ab nb cb, .slice aw nw cw] := by rw [hV]; exact (Arr.new w [.slice ab nb cb, .slice aw nw cw] 68).alloc _
  have Q : Arr V (w.heap.size + 1) 83 [.int .i64 0, .int .i64 0, .int .i64 0, .bool false, .int .i64 0, .int .i64 0] := by
    rw [hV]
    have := Arr.new (w.alloc (.cells #[.slice ab nb cb, .slice aw nw cw] 68)) [.int .i64 0, .int .i64 0, .int .i64 0, .bool false, .int .i64 0, .int .i64 0] 83
    simpa using this
  have HC : Hid (∀ Z, Below w.heap.size w Z → Calls Try.prog 148 #[flV ab nb cb aw nw cw] Z fun e w' => ∃ (v : Value) (z : Int), e = .returned (.tuple #[.int .i64 (acT xs 2).1, v, .int .i64 z]) ∧ w'.ownsRow Z.heap.size 144 4 v (acT xs 2).2.2.length (FL (acT xs 2).2.2) ∧ Below Z.heap.size Z w') := fun Z hZ => specL11active ab nb cb aw nw cw xs Z (h.below hZ) hn
  have HA : Hid (foAll (acT xs 2).2.2) := (acT_len xs 2).2
  have hle := (acT_len xs 2).1
  obtain ⟨T, hT⟩ : ∃ T, T = acT xs 2 := ⟨_, rfl⟩
  rw [← hT] at HC HA hle hS
  clear hT h hn
  obtain ⟨k, m, l⟩ := T
  dsimp only at HC HA hle hS
  have HS : Hid _ := hS
  clear hS
  obtain ⟨G, hG⟩ : ∃ G, G = w.heap.size + 1 := ⟨_, rfl⟩
  obtain ⟨F, hF⟩ : ∃ F, F = w.heap.size := ⟨_, rfl⟩
  have hGw : w.heap.size ≤ G := by omega
  rw [← hG] at Q
  rw [← hF] at A
  have c0 := A.cell 0
  have c1 := A.cell 1
  simp at c0 c1
  go_enter Try.func119, Try.ntmps119
  go_upto_region 1 with fail
  rw [← hV]
  rw [← hG]
  rw [← hF]
  clear hV hF hG
  go_wp2_with fail
  refine Calls.mono (HC.out _ B) ?_
  rintro e w1 ⟨v, z, rfl, O, hb⟩
  replace Q := Q.kept hb
  replace B := B.trans (hb.mono B.size)
  clear hb HC c0 c1 A
  obtain ⟨va, vc, rfl, _, hRs⟩ := Rs.own O
  have HR : Hid (Rs w1 va l.length vc l) := hRs
  clear O hRs
  by_cases hk : k < 0
  · have HE : Hid _ := HS.out.symm.trans (if_pos hk)
    clear HS
    have fR := Q.frozen
    have lR := Q.lt
    have q0 := Q.cell 0
    have q1 := Q.cell 1
    have q2 := Q.cell 2
    have q3 := Q.cell 3
    have q4 := Q.cell 4
    have q5 := Q.cell 5
    simp at q0 q1 q2 q3 q4 q5
    have HK : Hid _ := set6 Q (.int .i64 0) (.int .i64 0) (.int .i64 0) (.bool false) (.int .i64 0) (.int .i64 0)
    have HB : Hid _ := bel_set6 B hGw (.int .i64 0) (.int .i64 0) (.int .i64 0) (.bool false) (.int .i64 0) (.int .i64 0)
    clear Q B
    go_wp2
    exact bodyPost_ret (results_row_tmp (v := .bool false) (t := 83) (cs := [.int .i64 0, .int .i64 0, .int .i64 0, .bool false, .int .i64 0, .int .i64 0]) rfl rfl rfl HK.out Try.underlying83 rfl (by kernel_rfl)) rfl ⟨by rw [HE.out], HB.out⟩
  · have HE : Hid _ := HS.out.symm.trans (if_neg hk)
    clear HS
    go_wp2_with fail
    refine (specL10fold va l.length vc l _ HR.out (by omega) HA.out).mono ?_
    rintro e w2 ⟨rfl, hb⟩
    replace Q := Q.kept hb
    replace B := B.trans (hb.mono B.size)
    clear hb HR HA
    rw [← HE.out]
    clear HE
    obtain ⟨⟨sb, sn, sf, st, si, so⟩, ok⟩ := S
    have fR := Q.frozen
    have lR := Q.lt
    have q0 := Q.cell 0
    have q1 := Q.cell 1
    have q2 := Q.cell 2
    have q3 := Q.cell 3
    have q4 := Q.cell 4
    have q5 := Q.cell 5
    simp at q0 q1 q2 q3 q4 q5
    have HK : Hid _ := set6 Q (.int .i64 sb) (.int .i64 sn) (.int .i64 sf) (.bool st) (.int .i64 si) (.int .i64 so)
    have HB : Hid _ := bel_set6 B hGw (.int .i64 sb) (.int .i64 sn) (.int .i64 sf) (.bool st) (.int .i64 si) (.int .i64 so)
    clear Q B
    go_wp2
    exact bodyPost_ret (results_row_tmp (v := .bool ok) (t := 83) (cs := [.int .i64 sb, .int .i64 sn, .int .i64 sf, .bool st, .int .i64 si, .int .i64 so]) rfl rfl rfl HK.out Try.underlying83 rfl (by kernel_rfl)) rfl ⟨rfl, HB.out⟩
/-- What StateOf answers. -/
def soT (m : DeviceM) : Bt × Bool := if dvOk m = true then bootT m.f.b else (bz, false)
theorem dvOk_len {m : DeviceM} (h : dvOk m = true) : m.f.b.length = 3072 := by
  unfold dvOk flOk at h
  simp only [Bool.and_eq_true, decide_eq_true_eq] at h
  omega
theorem specStateOf (m : DeviceM) (p : DeviceA) (w : World) (h : DeviceRd w p m) (hs : DeviceSm m) :
    Calls Try.prog 57 #[devV m p] w fun e w' => e = .returned (stV (soT m)) ∧ Below w.heap.size w w' := by
  obtain ⟨S, hS⟩ : ∃ S, soT m = S := ⟨_, rfl⟩
  rw [hS]
  unfold soT at hS
  obtain ⟨V, hV⟩ : ∃ V, V = (w.alloc (.cells #[.int .i64 m.i, .slice p.k.a m.k.length p.k.c, .slice p.f.b.a m.f.b.length p.f.b.c, .slice p.f.w.a m.f.w.length p.f.w.c] 70)).alloc (.cells #[.int .i64 0, .int .i64 0, .int .i64 0, .bool false, .int .i64 0, .int .i64 0] 83) := ⟨_, rfl⟩
  have B : Below w.heap.size w V := by rw [hV]; exact ((Below.refl _ _).alloc (Nat.le_refl _) _).alloc (by simp) _
  have A : Arr V w.heap.size 70 [.int .i64 m.i, .slice p.k.a m.k.length p.k.c, .slice p.f.b.a m.f.b.length p.f.b.c, .slice p.f.w.a m.f.w.length p.f.w.c] := by rw [hV]; exact (Arr.new w [.int .i64 m.i, .slice p.k.a m.k.length p.k.c, .slice p.f.b.a m.f.b.length p.f.b.c, .slice p.f.w.a m.f.w.length p.f.w.c] 70).alloc _
  have Q : Arr V (w.heap.size + 1) 83 [.int .i64 0, .int .i64 0, .int .i64 0, .bool false, .int .i64 0, .int .i64 0] := by
    rw [hV]
    have := Arr.new (w.alloc (.cells #[.int .i64 m.i, .slice p.k.a m.k.length p.k.c, .slice p.f.b.a m.f.b.length p.f.b.c, .slice p.f.w.a m.f.w.length p.f.w.c] 70)) [.int .i64 0, .int .i64 0, .int .i64 0, .bool false, .int .i64 0, .int .i64 0] 83
    simpa using this
  have HD : Hid (∀ Z, Below w.heap.size w Z → Calls Try.prog 48 #[devV m p] Z fun e w' => e = .returned (.bool (dvOk m)) ∧ Below Z.heap.size Z w') := fun Z hZ => specDeviceOk m p Z (h.below hZ) hs
  have HC : Hid (dvOk m = true → ∀ Z, Below w.heap.size w Z → Calls Try.prog 119 #[flV p.f.b.a m.f.b.length p.f.b.c p.f.w.a m.f.w.length p.f.w.c] Z fun e w' => e = .returned (stV (bootT m.f.b)) ∧ Below Z.heap.size Z w') := fun hd Z hZ => specL11boot _ _ _ _ _ _ m.f.b Z (h.f.b.below hZ) (dvOk_len hd)
  have HS : Hid _ := hS
  clear hS h hs
  obtain ⟨G, hG⟩ : ∃ G, G = w.heap.size + 1 := ⟨_, rfl⟩
  obtain ⟨F, hF⟩ : ∃ F, F = w.heap.size := ⟨_, rfl⟩
  have hGw : w.heap.size ≤ G := by omega
  rw [← hG] at Q
  rw [← hF] at A
  have c0 := A.cell 0
  have c1 := A.cell 1
  have c2 := A.cell 2
  have c3 := A.cell 3
  simp at c0 c1 c2 c3
  go_enter Try.func57, Try.ntmps57
  go_upto_region 1 with fail
  rw [← hV]
  rw [← hG]
  rw [← hF]
  clear hV hF hG
  go_wp2_with fail
  refine Calls.mono (HD.out _ B) ?_
  rintro e w1 ⟨rfl, hb⟩
  replace A := A.kept hb
  replace Q := Q.kept hb
  replace B := B.trans (hb.mono B.size)
  clear hb HD c0 c1 c2 c3
  obtain ⟨K, hK⟩ : ∃ K, K = dvOk m := ⟨_, rfl⟩
  rw [← hK] at HS HC ⊢
  clear hK
  cases K
  · have HE : Hid _ := HS.out.symm.trans (if_neg (by simp))
    clear HS HC A
    have fR := Q.frozen
    have lR := Q.lt
    have q0 := Q.cell 0
    have q1 := Q.cell 1
    have q2 := Q.cell 2
    have q3 := Q.cell 3
    have q4 := Q.cell 4
    have q5 := Q.cell 5
    simp at q0 q1 q2 q3 q4 q5
    have HK : Hid _ := set6 Q (.int .i64 0) (.int .i64 0) (.int .i64 0) (.bool false) (.int .i64 0) (.int .i64 0)
    have HB : Hid _ := bel_set6 B hGw (.int .i64 0) (.int .i64 0) (.int .i64 0) (.bool false) (.int .i64 0) (.int .i64 0)
    clear Q B
    go_wp2
    exact bodyPost_ret (results_row_tmp (v := .bool false) (t := 83) (cs := [.int .i64 0, .int .i64 0, .int .i64 0, .bool false, .int .i64 0, .int .i64 0]) rfl rfl rfl HK.out Try.underlying83 rfl (by kernel_rfl)) rfl ⟨by rw [HE.out], HB.out⟩
  have HE : Hid _ := HS.out.symm.trans (if_pos rfl)
  clear HS
  have c0 := A.cell 0
  have c1 := A.cell 1
  have c2 := A.cell 2
  have c3 := A.cell 3
  simp at c0 c1 c2 c3
  go_wp2_with fail
  refine Calls.mono (HC.out (by first | rfl | trivial) _ B) ?_
  rintro e w2 ⟨rfl, hb⟩
  replace Q := Q.kept hb
  replace B := B.trans (hb.mono B.size)
  clear hb A HC c0 c1 c2 c3
  rw [← HE.out]
  clear HE
  obtain ⟨⟨sb, sn, sf, st, si, so⟩, ok⟩ := S
  have fR := Q.frozen
  have lR := Q.lt
  have q0 := Q.cell 0
  have q1 := Q.cell 1
  have q2 := Q.cell 2
  have q3 := Q.cell 3
  have q4 := Q.cell 4
  have q5 := Q.cell 5
  simp at q0 q1 q2 q3 q4 q5
  have HK : Hid _ := set6 Q (.int .i64 sb) (.int .i64 sn) (.int .i64 sf) (.bool st) (.int .i64 si) (.int .i64 so)
  have HB : Hid _ := bel_set6 B hGw (.int .i64 sb) (.int .i64 sn) (.int .i64 sf) (.bool st) (.int .i64 si) (.int .i64 so)
  clear Q B
  go_wp2
  exact bodyPost_ret (results_row_tmp (v := .bool ok) (t := 83) (cs := [.int .i64 sb, .int .i64 sn, .int .i64 sf, .bool st, .int .i64 si, .int .i64 so]) rfl rfl rfl HK.out Try.underlying83 rfl (by kernel_rfl)) rfl ⟨rfl, HB.out⟩
end Go.Proofs.Ytgfjbaigmkdbcaa
namespace Go.Proofs.Ytgfjbaigmkdbcaa
open Go.RowKit
set_option maxRecDepth 100000
set_option maxHeartbeats 4000000
set_option linter.unusedVariables false

theorem implStateOf (m : DeviceM) (p : DeviceA) (w : World) (h : DeviceRd w p m) (hs : DeviceSm m) :
    Calls Try.prog 58 #[devV m p] w fun e w' => e = .returned (stV (soT m)) ∧ Below w.heap.size w w' := by
  obtain ⟨S, hS⟩ : ∃ S, soT m = S := ⟨_, rfl⟩
  rw [hS]
  unfold soT at hS
  obtain ⟨V, hV⟩ : ∃ V, V = (w.alloc (.cells #[.int .i64 m.i, .slice p.k.a m.k.length p.k.c, .slice p.f.b.a m.f.b.length p.f.b.c, .slice p.f.w.a m.f.w.length p.f.w.c] 70)).alloc (.cells #[.int .i64 0, .int .i64 0, .int .i64 0, .bool false, .int .i64 0, .int .i64 0] 83) := ⟨_, rfl⟩
  have B : Below w.heap.size w V := by rw [hV]; exact ((Below.refl _ _).alloc (Nat.le_refl _) _).alloc (by simp) _
  have A : Arr V w.heap.size 70 [.int .i64 m.i, .slice p.k.a m.k.length p.k.c, .slice p.f.b.a m.f.b.length p.f.b.c, .slice p.f.w.a m.f.w.length p.f.w.c] := by rw [hV]; exact (Arr.new w [.int .i64 m.i, .slice p.k.a m.k.length p.k.c, .slice p.f.b.a m.f.b.length p.f.b.c, .slice p.f.w.a m.f.w.length p.f.w.c] 70).alloc _
  have Q : Arr V (w.heap.size + 1) 83 [.int .i64 0, .int .i64 0, .int .i64 0, .bool false, .int .i64 0, .int .i64 0] := by
    rw [hV]
    have := Arr.new (w.alloc (.cells #[.int .i64 m.i, .slice p.k.a m.k.length p.k.c, .slice p.f.b.a m.f.b.length p.f.b.c, .slice p.f.w.a m.f.w.length p.f.w.c] 70)) [.int .i64 0, .int .i64 0, .int .i64 0, .bool false, .int .i64 0, .int .i64 0] 83
    simpa using this
  have HD : Hid (∀ Z, Below w.heap.size w Z → Calls Try.prog 50 #[devV m p] Z fun e w' => e = .returned (.bool (dvOk m)) ∧ Below Z.heap.size Z w') := fun Z hZ => implDeviceOk m p Z (h.below hZ) hs
  have HC : Hid (dvOk m = true → ∃ (a1 : Option Addr) (n1 c1 : Nat) (a2 : Option Addr) (n2 c2 : Nat) (x1 x2 x3 : Int), ∀ Z, Below w.heap.size w Z → Calls Try.prog 120 #[flV p.f.b.a m.f.b.length p.f.b.c p.f.w.a m.f.w.length p.f.w.c] Z fun e w' => e = .returned (.tuple #[.agg #[.slice a1 n1 c1, .slice a2 n2 c2, .int .i64 x1, .int .i64 x2, .int .i64 x3, .int .i64 (bootT m.f.b).1.b, .int .i64 (bootT m.f.b).1.n, .int .i64 (bootT m.f.b).1.f, .bool (bootT m.f.b).1.t, .int .i64 (bootT m.f.b).1.i, .int .i64 (bootT m.f.b).1.o], .bool (bootT m.f.b).2]) ∧ Below Z.heap.size Z w') := by
    intro hd
    have hl := dvOk_len hd
    obtain ⟨b, o, e⟩ : ∃ b o, p.f.b.a = some ⟨b, o, none⟩ := by
      rcases h.f.b.2.2.2.2 with h0 | ⟨b, o, e, _⟩
      · omega
      · exact ⟨b, o, e⟩
    obtain ⟨a1, n1, c1, a2, n2, c2, x1, x2, x3, ex⟩ := lgT_ex b o p.f.b.c p.f.w.a m.f.w.length p.f.w.c m.f.b
    refine ⟨a1, n1, c1, a2, n2, c2, x1, x2, x3, fun Z hZ => ?_⟩
    have hh := h.f.b.below hZ
    rw [hl, e] at hh
    rw [hl, e]
    have := implLogOf b o p.f.b.c p.f.w.a m.f.w.length p.f.w.c m.f.b Z hh
    rw [ex] at this
    exact this
  have HS : Hid _ := hS
  clear hS h hs
  obtain ⟨G, hG⟩ : ∃ G, G = w.heap.size + 1 := ⟨_, rfl⟩
  obtain ⟨F, hF⟩ : ∃ F, F = w.heap.size := ⟨_, rfl⟩
  have hGw : w.heap.size ≤ G := by omega
  rw [← hG] at Q
  rw [← hF] at A
  have c0 := A.cell 0
  have c1 := A.cell 1
  have c2 := A.cell 2
  have c3 := A.cell 3
  simp at c0 c1 c2 c3
  go_enter Try.func58, Try.ntmps58
  go_upto_region 1 with fail
  rw [← hV]
  rw [← hG]
  rw [← hF]
  clear hV hF hG
  go_wp2_with fail
  refine Calls.mono (HD.out _ B) ?_
  rintro e w1 ⟨rfl, hb⟩
  replace A := A.kept hb
  replace Q := Q.kept hb
  replace B := B.trans (hb.mono B.size)
  clear hb HD c0 c1 c2 c3
  obtain ⟨K, hK⟩ : ∃ K, K = dvOk m := ⟨_, rfl⟩
  rw [← hK] at HS HC ⊢
  clear hK
  cases K
  · have HE : Hid _ := HS.out.symm.trans (if_neg (by simp))
    clear HS HC A
    have fR := Q.frozen
    have lR := Q.lt
    have q0 := Q.cell 0
    have q1 := Q.cell 1
    have q2 := Q.cell 2
    have q3 := Q.cell 3
    have q4 := Q.cell 4
    have q5 := Q.cell 5
    simp at q0 q1 q2 q3 q4 q5
    have HK : Hid _ := set6 Q (.int .i64 0) (.int .i64 0) (.int .i64 0) (.bool false) (.int .i64 0) (.int .i64 0)
    have HB : Hid _ := bel_set6 B hGw (.int .i64 0) (.int .i64 0) (.int .i64 0) (.bool false) (.int .i64 0) (.int .i64 0)
    clear Q B
    go_wp2
    exact bodyPost_ret (results_row_tmp (v := .bool false) (t := 83) (cs := [.int .i64 0, .int .i64 0, .int .i64 0, .bool false, .int .i64 0, .int .i64 0]) rfl rfl rfl HK.out Try.underlying83 rfl (by kernel_rfl)) rfl ⟨by rw [HE.out], HB.out⟩
  have HE : Hid _ := HS.out.symm.trans (if_pos rfl)
  clear HS
  have c0 := A.cell 0
  have c1 := A.cell 1
  have c2 := A.cell 2
  have c3 := A.cell 3
  simp at c0 c1 c2 c3
  obtain ⟨a1, n1, e1, a2, n2, e2, x1, x2, x3, HC'⟩ := HC.out (by first | rfl | trivial)
  rw [← HE.out] at HC'
  clear HE HC
  obtain ⟨⟨sb, sn, sf, st, si, so⟩, ok⟩ := S
  dsimp only at HC'
  have HL : Hid _ := HC'
  clear HC'
  go_wp2_with fail
  refine Calls.mono (HL.out _ B) ?_
  rintro e w2 ⟨rfl, hb⟩
  replace Q := Q.kept hb
  replace B := B.trans (hb.mono B.size)
  clear hb A HL c0 c1 c2 c3
  obtain ⟨X, hX⟩ : ∃ X, X = w2.alloc (.cells #[.slice a1 n1 e1, .slice a2 n2 e2, .int .i64 x1, .int .i64 x2, .int .i64 x3, .int .i64 sb, .int .i64 sn, .int .i64 sf, .bool st, .int .i64 si, .int .i64 so] 154) := ⟨_, rfl⟩
  have L : Arr X w2.heap.size 154 [.slice a1 n1 e1, .slice a2 n2 e2, .int .i64 x1, .int .i64 x2, .int .i64 x3, .int .i64 sb, .int .i64 sn, .int .i64 sf, .bool st, .int .i64 si, .int .i64 so] := by rw [hX]; exact Arr.new _ _ _
  replace Q : Arr X G 83 [.int .i64 0, .int .i64 0, .int .i64 0, .bool false, .int .i64 0, .int .i64 0] := by rw [hX]; exact Q.alloc _
  replace B : Below w.heap.size w X := by rw [hX]; exact B.alloc B.size _
  obtain ⟨H, hH⟩ : ∃ H, H = w2.heap.size := ⟨_, rfl⟩
  rw [← hH] at L
  go_upto_region 4 with fail
  rw [← hX]
  rw [← hH]
  clear hX hH
  have l0 := L.cell 0
  have l1 := L.cell 1
  have l2 := L.cell 2
  have l3 := L.cell 3
  have l4 := L.cell 4
  have l5 := L.cell 5
  have l6 := L.cell 6
  have l7 := L.cell 7
  have l8 := L.cell 8
  have l9 := L.cell 9
  have l10 := L.cell 10
  simp at l0 l1 l2 l3 l4 l5 l6 l7 l8 l9 l10
  have fR := Q.frozen
  have lR := Q.lt
  have q0 := Q.cell 0
  have q1 := Q.cell 1
  have q2 := Q.cell 2
  have q3 := Q.cell 3
  have q4 := Q.cell 4
  have q5 := Q.cell 5
  simp at q0 q1 q2 q3 q4 q5
  have HK : Hid _ := set6 Q (.int .i64 sb) (.int .i64 sn) (.int .i64 sf) (.bool st) (.int .i64 si) (.int .i64 so)
  have HB : Hid _ := bel_set6 B hGw (.int .i64 sb) (.int .i64 sn) (.int .i64 sf) (.bool st) (.int .i64 si) (.int .i64 so)
  clear Q B
  go_wp2
  exact bodyPost_ret (results_row_tmp (v := .bool ok) (t := 83) (cs := [.int .i64 sb, .int .i64 sn, .int .i64 sf, .bool st, .int .i64 si, .int .i64 so]) rfl rfl rfl HK.out Try.underlying83 rfl (by kernel_rfl)) rfl ⟨rfl, HB.out⟩
end Go.Proofs.Ytgfjbaigmkdbcaa

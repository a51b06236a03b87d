/-
  What is proved here: what Differs answers, the specification's and the program's.
-/
import Derived.Test.YtcnlpdpbkkjkoaaF9x
import Derived.Test.YtcnlpdpbkkjkoaaVs
namespace Go.Proofs.Ytcnlpdpbkkjkoaa
set_option maxRecDepth 100000
set_option maxHeartbeats 4000000
open Go.RowKit
set_option linter.unusedVariables false

/-- The sectors below k whose bytes are not alike. -/
def dfs (xs bs : List Int) (k : Nat) : List Int := ((List.range k).filter fun s => decide ((xs.drop (s * 64)).take 64 ≠ (bs.drop (s * 64)).take 64)).map fun s : Nat => (s : Int)
def difL (xs ws bs vs : List Int) : List Int := if flOk xs ws && flOk bs vs then dfs xs bs 48 else []
theorem dfs_succ (xs bs : List Int) (k : Nat) : dfs xs bs (k + 1) = if (xs.drop (k * 64)).take 64 = (bs.drop (k * 64)).take 64 then dfs xs bs k else dfs xs bs k ++ [(k : Int)] := by
  unfold dfs
  rw [List.range_succ, List.filter_append, List.map_append]
  split
  · rename_i h
    simp [h]
  · rename_i h
    simp [h]
theorem dfs_len (xs bs : List Int) (k : Nat) : (dfs xs bs k).length ≤ k := by
  unfold dfs
  rw [List.length_map]
  exact Nat.le_trans (List.length_filter_le _ _) (by simp)
theorem dfs_int (xs bs : List Int) (k : Nat) : ∀ x ∈ dfs xs bs k, 0 ≤ x ∧ x < k := by
  intro x hx
  simp only [dfs, List.mem_map, List.mem_filter, List.mem_range] at hx
  obtain ⟨s, ⟨h, _⟩, rfl⟩ := hx
  omega
theorem difL_len (xs ws bs vs : List Int) : (difL xs ws bs vs).length ≤ 48 := by
  unfold difL
  split
  · exact dfs_len _ _ _
  · simp
theorem difL_int (xs ws bs vs : List Int) : ∀ x ∈ difL xs ws bs vs, -9223372036854775808 ≤ x ∧ x ≤ 9223372036854775807 := by
  unfold difL
  split
  · intro x hx
    have := dfs_int xs bs 48 x hx
    omega
  · simp
theorem implSectorAt (b o nB c : Nat) (aW : Option Addr) (nW cW : Nat) (S : Nat) (w : World) (h1 : S * 64 + 64 ≤ nB) (h2 : nB ≤ c) (h3 : nB ≤ 2097152) :
    Calls Try.prog 61 #[flV (some ⟨b, o, none⟩) nB c aW nW cW, .int .i64 S] w fun e w' => e = .returned (.slice (some ⟨b, o + S * 64, none⟩) 64 (c - S * 64)) ∧ Below w.heap.size w w' := by
  have HB : Hid (Below w.heap.size w (w.alloc (.cells #[.slice (some ⟨b, o, none⟩) nB c, .slice aW nW cW] 25))) := (Below.refl _ _).alloc (Nat.le_refl _) _
  have w1 : IntKind.i64.wrap ((S : Int) * 64) = (S : Int) * 64 := by rw [IntKind.wrap_i64]; omega
  have w2 : IntKind.i64.wrap ((S : Int) * 64 + 64) = (S : Int) * 64 + 64 := by rw [IntKind.wrap_i64]; omega
  have hne : c ≠ S * 64 := by omega
  have t1 : ((S : Int) * 64).toNat = S * 64 := by omega
  have t2 : ((S : Int) * 64 + 64).toNat = S * 64 + 64 := by omega
  have b1 : (0 : Int) ≤ (S : Int) * 64 := by omega
  have b2 : (0 : Int) ≤ (S : Int) * 64 + 64 := by omega
  have b3 : (S : Int) * 64 ≤ (S : Int) * 64 + 64 := by omega
  have b4 : (S : Int) * 64 + 64 ≤ (c : Int) := by omega
  go_enter Try.func61, Try.ntmps61
  go_wp2
  go_ret
  exact ⟨by simp, HB.out⟩

theorem differs_s (aB : Option Addr) (nB cB : Nat) (aW : Option Addr) (nW cW : Nat) (bs ws : List Int) (xB : Option Addr) (mB dB : Nat) (xW : Option Addr) (mW dW : Nat) (cs vs : List Int) (w : World) (hB : Bs w aB nB cB bs) (hW : Is w aW nW cW ws) (hn : nB ≤ 2097152) (hm : nW ≤ 2097152) (gB : Bs w xB mB dB cs) (gW : Is w xW mW dW vs) (gn : mB ≤ 2097152) (gm : mW ≤ 2097152) :
    Calls Try.prog 50 #[flV aB nB cB aW nW cW, flV xB mB dB xW mW dW] w fun e w' => ∃ v, e = .returned v ∧ w'.ownsRow w.heap.size 3 1 v (difL bs ws cs vs).length (I64 (difL bs ws cs vs)) ∧ Below w.heap.size w w' := by
  obtain ⟨V, hV⟩ : ∃ V, V = (w.alloc (.cells #[.slice aB nB cB, .slice aW nW cW] 25)).alloc (.cells #[.slice xB mB dB, .slice xW mW dW] 25) := ⟨_, rfl⟩
  have B : Below w.heap.size w V := by rw [hV]; exact ((Below.refl _ _).alloc (Nat.le_refl _) _).alloc (by simp) _
  have A0 : Arr V w.heap.size 25 [.slice aB nB cB, .slice aW nW cW] := by rw [hV]; exact (Arr.new w _ _).alloc _
  have A1 : Arr V (w.heap.size + 1) 25 [.slice xB mB dB, .slice xW mW dW] := by
    rw [hV]
    have := Arr.new (w.alloc (.cells #[.slice aB nB cB, .slice aW nW cW] 25)) [.slice xB mB dB, .slice xW mW dW] 25
    simpa using this
  obtain ⟨L, hL⟩ : ∃ L, L = difL bs ws cs vs := ⟨_, rfl⟩
  rw [← hL]
  have HL : Hid _ := hL
  clear hL
  have c0 := arr2 A0
  rw [hV] at c0
  go_enter Try.func50, Try.ntmps50
  go_wp2_with fail
  rw [← hV]
  clear hV c0
  refine (specFlashOk aB nB cB aW nW cW bs ws _ (hB.below B) (hW.below B) hn hm).mono ?_
  rintro e w1 ⟨rfl, b1⟩
  replace A0 := A0.kept b1
  replace A1 := A1.kept b1
  replace B := B.trans (b1.mono B.size)
  clear b1
  have hf : flOk bs ws = false ∨ flOk bs ws = true := by cases flOk bs ws <;> simp
  obtain ⟨f, hf'⟩ : ∃ f, f = flOk bs ws := ⟨_, rfl⟩
  rw [← hf'] at hf ⊢
  have HF : Hid _ := hf'
  clear hf'
  rcases hf with rfl | rfl
  · have : L = [] := by rw [HL.out]; unfold difL; rw [← HF.out]; rfl
    subst this
    go_wp2
    go_ret
    exact ⟨_, rfl, World.ownsRow_nil _ _ _ _, B⟩
  have c1 := arr2 A1
  go_wp2_with fail
  clear c1
  refine (specFlashOk xB mB dB xW mW dW cs vs _ (gB.below B) (gW.below B) gn gm).mono ?_
  rintro e w2 ⟨rfl, b2⟩
  replace A0 := A0.kept b2
  replace A1 := A1.kept b2
  replace B := B.trans (b2.mono B.size)
  clear b2
  have hf : flOk cs vs = false ∨ flOk cs vs = true := by cases flOk cs vs <;> simp
  obtain ⟨f, hf'⟩ : ∃ f, f = flOk cs vs := ⟨_, rfl⟩
  rw [← hf'] at hf ⊢
  have HG : Hid _ := hf'
  clear hf'
  rcases hf with rfl | rfl
  · have : L = [] := by rw [HL.out]; unfold difL; rw [← HG.out]; simp
    subst this
    go_wp2
    go_ret
    exact ⟨_, rfl, World.ownsRow_nil _ _ _ _, B⟩
  obtain ⟨l1, l2, _⟩ := flOk_iff.1 HF.out.symm
  obtain ⟨k1, k2, _⟩ := flOk_iff.1 HG.out.symm
  have hbl := hB.2.1
  have hcl := gB.2.1
  have hbc := hB.2.2.1
  have hcc := gB.2.2.1
  obtain ⟨b, o, rfl⟩ : ∃ b o, aB = some ⟨b, o, none⟩ := by
    rcases hB.2.2.2.2 with h | ⟨b, o, e, _⟩
    · omega
    · exact ⟨b, o, e⟩
  obtain ⟨b', o', rfl⟩ : ∃ b o, xB = some ⟨b, o, none⟩ := by
    rcases gB.2.2.2.2 with h | ⟨b, o, e, _⟩
    · omega
    · exact ⟨b, o, e⟩
  have hL : L = dfs bs cs 48 := by rw [HL.out]; unfold difL; rw [← HF.out, ← HG.out]; rfl
  have HLL : Hid _ := hL
  have nB0 : nB = 3072 := by omega
  have mB0 : mB = 3072 := by omega
  have HN : Hid _ := nB0
  have HM : Hid _ := mB0
  clear hL HL l1 l2 k1 k2 nB0 mB0
  go_wp2
  go_loopw [5, 6] (fun v i wr => ∃ k : Nat, k ≤ 48 ∧ i = .int .i64 k ∧ wr.ownsRow w2.heap.size 3 1 v (dfs bs cs k).length (I64 (dfs bs cs k)) ∧ Below w2.heap.size w2 wr) (fun v i _ => 48 - (intOf i).toNat)
  case atStart => exact ⟨0, Nat.zero_le _, rfl, by simpa [dfs] using World.ownsRow_nil w2 w2.heap.size 3 1, Below.refl _ _⟩
  case round =>
    obtain ⟨k, hk, rfl, hown, bk⟩ := hrel
    have Bk := B.trans (bk.mono B.size)
    by_cases hlt : k < 48
    case neg =>
      have hkn : k = 48 := by omega
      subst hkn
      go_wp2
      go_ret
      exact ⟨_, rfl, by rw [HLL.out]; exact own_base hown B.size, Bk⟩
    have hltI : (k : Int) < 48 := by omega
    have hnb := HN.out
    have hmb := HM.out
    have K0 := A0.kept bk
    have K1 := A1.kept bk
    have c0 := arr2 K0
    have c1 := arr2 K1
    have X0 := (hB.below Bk).mid (k * 64) 64 (by omega)
    have X1 := (gB.below Bk).mid (k * 64) 64 (by omega)
    have hlo := dfs_len bs cs k
    have hk64 : k * 64 + 64 ≤ nB := by omega
    have hk65 : k * 64 + 64 ≤ mB := by omega
    obtain ⟨q, eq⟩ : ∃ q, q = decide ((bs.drop (k * 64)).take 64 = (cs.drop (k * 64)).take 64) := ⟨_, rfl⟩
    have HQ : Hid _ := eq
    obtain ⟨s0, e0⟩ : ∃ s, s = strOfNums ((bs.drop (k * 64)).take 64) := ⟨_, rfl⟩
    obtain ⟨s1, e1⟩ : ∃ s, s = strOfNums ((cs.drop (k * 64)).take 64) := ⟨_, rfl⟩
    have eqs := str_eq X0.2.2.2.1 X1.2.2.2.1
    rw [← e0, ← e1, ← eq] at eqs
    clear eq
    have w1 : IntKind.i64.wrap ((k : Int) * 64) = (k : Int) * 64 := by rw [IntKind.wrap_i64]; omega
    have w3 : IntKind.i64.wrap (((k : Int) + 1) * 64) = ((k : Int) + 1) * 64 := by rw [IntKind.wrap_i64]; omega
    have t1 : ((k : Int) * 64).toNat = k * 64 := by omega
    have t2 : (((k : Int) + 1) * 64).toNat = k * 64 + 64 := by omega
    have b1 : (0 : Int) ≤ (k : Int) * 64 := by omega
    have b2 : (0 : Int) ≤ ((k : Int) + 1) * 64 := by omega
    have b3 : (k : Int) * 64 ≤ ((k : Int) + 1) * 64 := by omega
    have b4 : ((k : Int) + 1) * 64 ≤ (cB : Int) := by omega
    have b5 : ((k : Int) + 1) * 64 ≤ (dB : Int) := by omega
    have n1 : cB ≠ k * 64 := by omega
    have n2 : dB ≠ k * 64 := by omega
    clear hnb hmb
    go_wp2
    try simp only [Act.put]
    refine tame [kc 26 (.pointer (some ⟨w.heap.size, 0, none⟩)), kc 27 (.slice (some ⟨b, o, none⟩) nB cB), kc 28 (.int .i64 ((k : Int) * 64)), kc 29 (.int .i64 (((k : Int) + 1) * 64)), kc 30 (.slice (some ⟨b, o + k * 64, none⟩) 64 (cB - k * 64)), kc 31 (.string s0), kc 32 (.pointer (some ⟨w.heap.size + 1, 0, none⟩)), kc 33 (.slice (some ⟨b', o', none⟩) mB dB), kc 34 (.int .i64 ((k : Int) * 64)), kc 35 (.int .i64 (((k : Int) + 1) * 64)), kc 36 (.slice (some ⟨b', o' + k * 64, none⟩) 64 (dB - k * 64)), kc 37 (.string s1), kc 38 (.bool (!q))] 13 (by kernel_rfl) (by kernel_rfl) (by kernel_rfl) (by repeat' first | exact trivial | apply kc_keeps | constructor) 0 (by kernel_rfl) (fun vv ll hh yW bW => ?_) (fun vv ll hh yW bW F ivh aph => ?_)
    · have x0 := (bW.cell (p := ⟨w.heap.size, 0, none⟩) K0.lt).trans c0.1
      have x1 := (bW.cell (p := ⟨w.heap.size + 1, 0, none⟩) K1.lt).trans c1.1
      have x2 := (bW.cell (p := ⟨w.heap.size, 1, none⟩) K0.lt).trans c0.2
      have x3 := (bW.cell (p := ⟨w.heap.size + 1, 1, none⟩) K1.lt).trans c1.2
      have y0 := bs_conv (X0.below bW)
      have y1 := bs_conv (X1.below bW)
      rw [← e0] at y0
      rw [← e1] at y1
      clear e0 e1
      refine ⟨tp (by kernel_rfl), tp ?_, tp (by kernel_rfl), tp (by kernel_rfl), tp ?_, tp ?_, tp (by kernel_rfl), tp ?_, tp (by kernel_rfl), tp (by kernel_rfl), tp ?_, tp ?_, tp ?_, trivial⟩
      all_goals
        simp only [fillK, putT, List.setIfInBounds_toArray, List.set_cons_zero, List.set_cons_succ]
        unfold execOp
        go_simp
        try (intro h; exact absurd h (by omega))
    clear F ivh aph
    obtain ⟨y, hy⟩ : ∃ z, z = yW := ⟨_, rfl⟩
    rw [← hy] at bW ⊢
    clear hy
    refine wpAny_done (by kernel_rfl) ?_ _
    simp only [fillK, putT, List.setIfInBounds_toArray, List.set_cons_zero, List.set_cons_succ]
    have hsucc := dfs_succ bs cs k
    by_cases hq : (bs.drop (k * 64)).take 64 = (cs.drop (k * 64)).take 64
    · rw [decide_eq_true hq] at HQ
      have hqt : q = true := HQ.out
      subst hqt
      rw [if_pos hq] at hsucc
      have HSU : Hid _ := hsucc
      have HO2 : Hid _ := own_below hown bW
      have HB2 : Hid (Below w2.heap.size w2 y) := bk.trans (bW.mono bk.size)
      clear hsucc hown bW bk Bk K0 K1 c0 c1 X0 X1 hq
      go_wp2
      go_roundw
      case rel => exact ⟨k + 1, by omega, by go_num, by rw [HSU.out]; exact HO2.out, HB2.out⟩
      case measure => simp [intOf]; omega
    · rw [decide_eq_false hq] at HQ
      have hqt : q = false := HQ.out
      subst hqt
      rw [if_neg hq] at hsucc
      have hos := (own_below hown bW).alloc (.cells #[.int .i64 (k : Int)] 3)
      have hone := Is.one y (k : Int) (by omega) (by omega)
      obtain ⟨n, hn'⟩ : ∃ n, n = (dfs bs cs k).length := ⟨_, rfl⟩
      obtain ⟨D, hD⟩ : ∃ D, D = dfs bs cs k := ⟨_, rfl⟩
      rw [← hn', ← hD] at hos
      rw [← hn'] at hlo
      rw [← hD] at hsucc
      have by2 : Below w2.heap.size w2 y := bk.trans (bW.mono bk.size)
      have zy := by2.size
      have HSU : Hid _ := hsucc
      have HHD : Hid (n = D.length) := by unfold Hid; rw [hn', hD]
      have HBW : Hid _ := by2
      clear hsucc hn' hD hown bW bk Bk K0 K1 c0 c1 X0 X1 by2 hq
      go_wp2_with (at_builtin; refine wpl_append_is rfl _ _ rfl w2.heap.size _ n D rfl _ 1 1 [(k : Int)] rfl hos hone ?_ ?_ ?_)
      · omega
      · first | omega | (simp; omega)
      intro v2 y2 o2 g2 _
      have b2 : Below w2.heap.size w2 y2 := (HBW.out.alloc zy _).grown g2 (by simp; omega) (fun q hq => (hos.lt q hq).1)
      have HO2 : Hid (y2.ownsRow w2.heap.size 3 1 v2 (n + 1) (I64 (D ++ [(k : Int)]))) := by unfold Hid; simpa using o2
      have HB2 : Hid _ := b2
      clear g2 o2 b2 hos hone
      go_wp2
      go_roundw
      case rel => exact ⟨k + 1, by omega, by go_num, by rw [HSU.out, List.length_append, ← HHD.out]; exact HO2.out, HB2.out⟩
      case measure => simp [intOf]; omega

theorem differs_i (aB : Option Addr) (nB cB : Nat) (aW : Option Addr) (nW cW : Nat) (bs ws : List Int) (xB : Option Addr) (mB dB : Nat) (xW : Option Addr) (mW dW : Nat) (cs vs : List Int) (w : World) (hB : Bs w aB nB cB bs) (hW : Is w aW nW cW ws) (hn : nB ≤ 2097152) (hm : nW ≤ 2097152) (gB : Bs w xB mB dB cs) (gW : Is w xW mW dW vs) (gn : mB ≤ 2097152) (gm : mW ≤ 2097152) :
    Calls Try.prog 22 #[flV aB nB cB aW nW cW, flV xB mB dB xW mW dW] w fun e w' => ∃ v, e = .returned v ∧ w'.ownsRow w.heap.size 3 1 v (difL bs ws cs vs).length (I64 (difL bs ws cs vs)) ∧ Below w.heap.size w w' := by
  obtain ⟨V, hV⟩ : ∃ V, V = (w.alloc (.cells #[.slice aB nB cB, .slice aW nW cW] 25)).alloc (.cells #[.slice xB mB dB, .slice xW mW dW] 25) := ⟨_, rfl⟩
  have B : Below w.heap.size w V := by rw [hV]; exact ((Below.refl _ _).alloc (Nat.le_refl _) _).alloc (by simp) _
  have A0 : Arr V w.heap.size 25 [.slice aB nB cB, .slice aW nW cW] := by rw [hV]; exact (Arr.new w _ _).alloc _
  have A1 : Arr V (w.heap.size + 1) 25 [.slice xB mB dB, .slice xW mW dW] := by
    rw [hV]
    have := Arr.new (w.alloc (.cells #[.slice aB nB cB, .slice aW nW cW] 25)) [.slice xB mB dB, .slice xW mW dW] 25
    simpa using this
  obtain ⟨L, hL⟩ : ∃ L, L = difL bs ws cs vs := ⟨_, rfl⟩
  rw [← hL]
  have HL : Hid _ := hL
  clear hL
  have c0 := arr2 A0
  rw [hV] at c0
  go_enter Try.func22, Try.ntmps22
  go_wp2_with fail
  rw [← hV]
  clear hV c0
  refine (implFlashOk aB nB cB aW nW cW bs ws _ (hB.below B) (hW.below B) hn hm).mono ?_
  rintro e w1 ⟨rfl, b1⟩
  replace A0 := A0.kept b1
  replace A1 := A1.kept b1
  replace B := B.trans (b1.mono B.size)
  clear b1
  have hf : flOk bs ws = false ∨ flOk bs ws = true := by cases flOk bs ws <;> simp
  obtain ⟨f, hf'⟩ : ∃ f, f = flOk bs ws := ⟨_, rfl⟩
  rw [← hf'] at hf ⊢
  have HF : Hid _ := hf'
  clear hf'
  rcases hf with rfl | rfl
  · have : L = [] := by rw [HL.out]; unfold difL; rw [← HF.out]; rfl
    subst this
    go_wp2
    go_ret
    exact ⟨_, rfl, World.ownsRow_nil _ _ _ _, B⟩
  have c1 := arr2 A1
  go_wp2_with fail
  clear c1
  refine (implFlashOk xB mB dB xW mW dW cs vs _ (gB.below B) (gW.below B) gn gm).mono ?_
  rintro e w2 ⟨rfl, b2⟩
  replace A0 := A0.kept b2
  replace A1 := A1.kept b2
  replace B := B.trans (b2.mono B.size)
  clear b2
  have hf : flOk cs vs = false ∨ flOk cs vs = true := by cases flOk cs vs <;> simp
  obtain ⟨f, hf'⟩ : ∃ f, f = flOk cs vs := ⟨_, rfl⟩
  rw [← hf'] at hf ⊢
  have HG : Hid _ := hf'
  clear hf'
  rcases hf with rfl | rfl
  · have : L = [] := by rw [HL.out]; unfold difL; rw [← HG.out]; simp
    subst this
    go_wp2
    go_ret
    exact ⟨_, rfl, World.ownsRow_nil _ _ _ _, B⟩
  obtain ⟨l1, l2, _⟩ := flOk_iff.1 HF.out.symm
  obtain ⟨k1, k2, _⟩ := flOk_iff.1 HG.out.symm
  have hbl := hB.2.1
  have hcl := gB.2.1
  have hbc := hB.2.2.1
  have hcc := gB.2.2.1
  obtain ⟨b, o, rfl⟩ : ∃ b o, aB = some ⟨b, o, none⟩ := by
    rcases hB.2.2.2.2 with h | ⟨b, o, e, _⟩
    · omega
    · exact ⟨b, o, e⟩
  obtain ⟨b', o', rfl⟩ : ∃ b o, xB = some ⟨b, o, none⟩ := by
    rcases gB.2.2.2.2 with h | ⟨b, o, e, _⟩
    · omega
    · exact ⟨b, o, e⟩
  have hL : L = dfs bs cs 48 := by rw [HL.out]; unfold difL; rw [← HF.out, ← HG.out]; rfl
  have HLL : Hid _ := hL
  have nB0 : nB = 3072 := by omega
  have mB0 : mB = 3072 := by omega
  have HN : Hid _ := nB0
  have HM : Hid _ := mB0
  clear hL HL l1 l2 k1 k2 nB0 mB0
  go_wp2
  go_loopw [5, 15] (fun v i wr => ∃ k : Nat, k ≤ 48 ∧ i = .int .i64 k ∧ wr.ownsRow w2.heap.size 3 1 v (dfs bs cs k).length (I64 (dfs bs cs k)) ∧ Below w2.heap.size w2 wr) (fun v i _ => 48 - (intOf i).toNat)
  case atStart => exact ⟨0, Nat.zero_le _, rfl, by simpa [dfs] using World.ownsRow_nil w2 w2.heap.size 3 1, Below.refl _ _⟩
  case round =>
    obtain ⟨k, hk, rfl, hown, bk⟩ := hrel
    have Bk := B.trans (bk.mono B.size)
    by_cases hlt : k < 48
    case neg =>
      have hkn : k = 48 := by omega
      subst hkn
      go_wp2
      go_ret
      exact ⟨_, rfl, by rw [HLL.out]; exact own_base hown B.size, Bk⟩
    have hltI : (k : Int) < 48 := by omega
    have hnb := HN.out
    have hmb := HM.out
    have K0 := A0.kept bk
    have K1 := A1.kept bk
    have c0 := arr2 K0
    have c1 := arr2 K1
    have X0 := (hB.below Bk).mid (k * 64) 64 (by omega)
    have X1 := (gB.below Bk).mid (k * 64) 64 (by omega)
    have hlo := dfs_len bs cs k
    have hk64 : k * 64 + 64 ≤ nB := by omega
    have hk65 : k * 64 + 64 ≤ mB := by omega
    obtain ⟨q, eq⟩ : ∃ q, q = decide ((bs.drop (k * 64)).take 64 = (cs.drop (k * 64)).take 64) := ⟨_, rfl⟩
    have HQ : Hid _ := eq
    clear hnb hmb
    go_wp2
    try simp only [Act.put]
    refine tame [kc 18 (flV (some ⟨b, o, none⟩) nB cB aW nW cW), kc 19 (.int .i64 (k : Int)), kc 20 (.slice (some ⟨b, o + k * 64, none⟩) 64 (cB - k * 64)), kc 21 (flV (some ⟨b', o', none⟩) mB dB xW mW dW), kc 22 (.int .i64 (k : Int)), kc 23 (.slice (some ⟨b', o' + k * 64, none⟩) 64 (dB - k * 64)), kc 24 (.bool q), kc 25 (.bool (!q))] 8 (by kernel_rfl) (by kernel_rfl) (by kernel_rfl) (by repeat' first | exact trivial | apply kc_keeps | constructor) 0 (by kernel_rfl) (fun vv ll hh yW bW => ?_) (fun vv ll hh yW bW F ivh aph => ?_)
    · have x0 := (bW.cell (p := ⟨w.heap.size, 0, none⟩) K0.lt).trans c0.1
      have x1 := (bW.cell (p := ⟨w.heap.size + 1, 0, none⟩) K1.lt).trans c1.1
      have x2 := (bW.cell (p := ⟨w.heap.size, 1, none⟩) K0.lt).trans c0.2
      have x3 := (bW.cell (p := ⟨w.heap.size + 1, 1, none⟩) K1.lt).trans c1.2
      have E := equalB b (o + k * 64) 64 (cB - k * 64) b' (o' + k * 64) 64 (dB - k * 64) _ _ yW (X0.below bW) (X1.below bW)
      rw [← eq] at E
      refine ⟨tp ?_, tp (by kernel_rfl), tc (implSectorAt b o nB cB aW nW cW k yW hk64 hbc hn) (by kernel_rfl), tp ?_, tp (by kernel_rfl), tc (implSectorAt b' o' mB dB xW mW dW k yW hk65 hcc gn) (by kernel_rfl), tc (E.mono (by rintro e w9 ⟨rfl, rfl⟩; exact ⟨rfl, Below.refl _ _⟩)) (by kernel_rfl), tp (by kernel_rfl), trivial⟩
      all_goals
        simp only [fillK, putT, List.setIfInBounds_toArray, List.set_cons_zero, List.set_cons_succ]
        unfold execOp
        go_simp
    clear F ivh aph
    obtain ⟨y, hy⟩ : ∃ z, z = yW := ⟨_, rfl⟩
    rw [← hy] at bW ⊢
    clear hy
    refine wpAny_done (by kernel_rfl) ?_ _
    simp only [fillK, putT, List.setIfInBounds_toArray, List.set_cons_zero, List.set_cons_succ]
    have hsucc := dfs_succ bs cs k
    by_cases hq : (bs.drop (k * 64)).take 64 = (cs.drop (k * 64)).take 64
    · rw [decide_eq_true hq] at HQ
      have hqt : q = true := HQ.out
      clear eq
      subst hqt
      rw [if_pos hq] at hsucc
      have HSU : Hid _ := hsucc
      have HO2 : Hid _ := own_below hown bW
      have HB2 : Hid (Below w2.heap.size w2 y) := bk.trans (bW.mono bk.size)
      clear hsucc hown bW bk Bk K0 K1 c0 c1 X0 X1 hq
      go_wp2
      go_roundw
      case rel => exact ⟨k + 1, by omega, by go_num, by rw [HSU.out]; exact HO2.out, HB2.out⟩
      case measure => simp [intOf]; omega
    · rw [decide_eq_false hq] at HQ
      have hqt : q = false := HQ.out
      clear eq
      subst hqt
      rw [if_neg hq] at hsucc
      have hos := (own_below hown bW).alloc (.cells #[.int .i64 (k : Int)] 3)
      have hone := Is.one y (k : Int) (by omega) (by omega)
      obtain ⟨n, hn'⟩ : ∃ n, n = (dfs bs cs k).length := ⟨_, rfl⟩
      obtain ⟨D, hD⟩ : ∃ D, D = dfs bs cs k := ⟨_, rfl⟩
      rw [← hn', ← hD] at hos
      rw [← hn'] at hlo
      rw [← hD] at hsucc
      have by2 : Below w2.heap.size w2 y := bk.trans (bW.mono bk.size)
      have zy := by2.size
      have HSU : Hid _ := hsucc
      have HHD : Hid (n = D.length) := by unfold Hid; rw [hn', hD]
      have HBW : Hid _ := by2
      clear hsucc hn' hD hown bW bk Bk K0 K1 c0 c1 X0 X1 by2 hq
      go_wp2_with (at_builtin; refine wpl_append_is rfl _ _ rfl w2.heap.size _ n D rfl _ 1 1 [(k : Int)] rfl hos hone ?_ ?_ ?_)
      · omega
      · first | omega | (simp; omega)
      intro v2 y2 o2 g2 _
      have b2 : Below w2.heap.size w2 y2 := (HBW.out.alloc zy _).grown g2 (by simp; omega) (fun q hq => (hos.lt q hq).1)
      have HO2 : Hid (y2.ownsRow w2.heap.size 3 1 v2 (n + 1) (I64 (D ++ [(k : Int)]))) := by unfold Hid; simpa using o2
      have HB2 : Hid _ := b2
      clear g2 o2 b2 hos hone
      go_wp2
      go_roundw
      case rel => exact ⟨k + 1, by omega, by go_num, by rw [HSU.out, List.length_append, ← HHD.out]; exact HO2.out, HB2.out⟩
      case measure => simp [intOf]; omega
end Go.Proofs.Ytcnlpdpbkkjkoaa

/-
  What is proved here: what the specification's BundleBytes answers.
-/
import Derived.Test.YtgfjbaigmkdbcaaY1
namespace Go.Proofs.Ytgfjbaigmkdbcaa
open Go.RowKit Ma
set_option maxRecDepth 100000
set_option maxHeartbeats 4000000
set_option linter.unusedVariables false

/-- What BundleBytes answers ahead of its bool. -/
def bbL (B : BunM) : List Int := if bOk B then buB B else []
theorem bbL_yes {B : BunM} (h : bOk B = true) : bbL B = buB B := by unfold bbL; rw [h]; rfl
theorem bbL_no {B : BunM} (h : bOk B = false) : bbL B = [] := by unfold bbL; rw [h]; rfl
theorem bun_sizes {B : BunM} (h : bOk B = true) : (1 ≤ B.ps.length ∧ B.ps.length ≤ 4) ∧ B.ns.length ≤ 8 ∧ ps32 B.ps := by
  obtain ⟨⟨_, _, _, h1, h2⟩, h3, _⟩ := (bOk_iff B).1 h
  exact ⟨h1, h2, fun q hq => (h3 q hq).1.2.2.2⟩
theorem buB_len (B : BunM) (h : bOk B = true) : (buB B).length ≤ 400 := by
  obtain ⟨h1, h2, h3⟩ := bun_sizes h
  have a1 := nsB_len [B.d, B.n, B.f, (B.ps.length : Int)]
  have a2 := psB_len B.ps (fun q hq => Nat.le_of_eq (h3 q hq))
  have a3 := nsB_len [(B.ns.length : Int)]
  have a4 := qsB_len B.ns
  simp only [buB, hdB, List.length_append]
  simp only [List.length_cons, List.length_nil] at a1 a3
  omega
theorem bbL_len (B : BunM) : (bbL B).length ≤ 400 := by
  cases h : bOk B with
  | true => rw [bbL_yes h]; exact buB_len B h
  | false => rw [bbL_no h]; simp
theorem bbL_byte {B : BunM} (h : psBy B.ps) : ByL (bbL B) := by
  cases e : bOk B with
  | false => rw [bbL_no e]; intro x hx; cases hx
  | true =>
    rw [bbL_yes e]
    exact ((ByL.app (nsB_byte _) (psB_byte _ h)).app (nsB_byte _)).app (qsB_byte _)
theorem specBundleBytes (pa : Option Addr) (pn pc : Nat) (na : Option Addr) (nn nc : Nat) (B : BunM) (w : World) (hP : Ps w pa pn pc B.ps) (hN : Ns w na nn nc B.ns) :
    Calls Try.prog 20 #[bunV B.d B.n B.f pa pn pc na nn nc] w fun e w' => ∃ v, e = .returned (.tuple #[v, .bool (bOk B)]) ∧ w'.ownsRow w.heap.size 5 1 v (bbL B).length (U8 (bbL B)) ∧ Below w.heap.size w w' := by
  have HS : Hid (∀ Z, Below w.heap.size w Z → Calls Try.prog 16 #[bunV B.d B.n B.f pa pn pc na nn nc] Z fun e w' => e = .returned (.bool (bOk B)) ∧ Below Z.heap.size Z w') := fun Z hZ => spec8BundleOk pa pn pc na nn nc B Z (hP.below hZ) (hN.below hZ)
  have HL : Hid (bOk B = true → ∀ Z, Below w.heap.size w Z → Calls Try.prog 91 #[bunV B.d B.n B.f pa pn pc na nn nc] Z fun e w' => ∃ v, e = .returned v ∧ w'.ownsRow Z.heap.size 5 1 v (bbL B).length (U8 (bbL B)) ∧ Below Z.heap.size Z w') := fun h Z hZ => by
    obtain ⟨h1, h2, h3⟩ := bun_sizes h
    rw [bbL_yes h]
    exact specL8bytes B.d B.n B.f pa pn pc na nn nc B.ps B.ns Z (hP.below hZ) (hN.below hZ) h3 (by have := hP.2.1; omega) (by have := hN.2.1; omega)
  have HNo : Hid (bOk B = false → bbL B = []) := bbL_no
  clear hP hN
  generalize hX : bbL B = X at HL HNo ⊢
  generalize hR : bOk B = R at HS HL HNo ⊢
  obtain ⟨d, n, f, ps, ns⟩ := B
  simp only [] at HS HL ⊢
  clear hX hR
  obtain ⟨V, hV⟩ : ∃ V, V = w.alloc (.cells #[.int .i64 d, .int .i64 n, .int .i64 f, .slice pa pn pc, .slice na nn nc] 31) := ⟨_, rfl⟩
  have A : Arr V w.heap.size 31 [.int .i64 d, .int .i64 n, .int .i64 f, .slice pa pn pc, .slice na nn nc] := by rw [hV]; exact Arr.new _ _ _
  have B0 : Below w.heap.size w V := by rw [hV]; exact (Below.refl _ _).alloc (Nat.le_refl _) _
  have c0 := A.cell 0
  have c1 := A.cell 1
  have c2 := A.cell 2
  have c3 := A.cell 3
  have c4 := A.cell 4
  simp at c0 c1 c2 c3 c4
  obtain ⟨m, hm⟩ : ∃ m, m = X.length := ⟨_, rfl⟩
  rw [← hm] at HL ⊢
  have HM : Hid (m = X.length) := hm
  clear hm
  go_enter Try.func20, Try.ntmps20
  go_upto_region 1 with fail
  rw [← hV]
  clear hV
  go_wp2_with fail
  refine Calls.mono (HS.out _ B0) ?_
  rintro e w1 ⟨rfl, hb⟩
  replace A := A.kept hb
  replace B0 := B0.trans (hb.mono B0.size)
  clear hb c0 c1 c2 c3 c4
  cases R with
  | false =>
    obtain rfl := HNo.out (by simp)
    obtain rfl : m = 0 := HM.out
    go_wp2
    go_ret2
    exact ⟨_, rfl, World.ownsRow_nil _ _ _ _, B0⟩
  | true =>
    have c0 := A.cell 0
    have c1 := A.cell 1
    have c2 := A.cell 2
    have c3 := A.cell 3
    have c4 := A.cell 4
    simp at c0 c1 c2 c3 c4
    go_wp2_with fail
    refine Calls.mono (HL.out (by simp) _ B0) ?_
    rintro e w2 ⟨v, rfl, o, hb⟩
    replace o := own_base o B0.size
    replace B0 := B0.trans (hb.mono B0.size)
    clear hb c0 c1 c2 c3 c4 A HS HL
    go_wp2
    go_ret2
    exact ⟨_, rfl, o, B0⟩
end Go.Proofs.Ytgfjbaigmkdbcaa

/-
  What is proved here: what the specification's Blank, ReadAt, l9may, WearMost answer.
-/
import Derived.Test.YtcnlpdpbkkjkoaaF9b
import Derived.Test.YtcnlpdpbkkjkoaaApp
namespace Go.Proofs.Ytcnlpdpbkkjkoaa
set_option maxRecDepth 100000
open Go.RowKit

theorem Bs.mid {w : World} {b o n c : Nat} {xs : List Int} (h : Bs w (some ⟨b, o, none⟩) n c xs) (i k : Nat) (hk : i + k ≤ n) : Bs w (some ⟨b, o + i, none⟩) k (c - i) ((xs.drop i).take k) := by
  obtain ⟨_, hl, hc, hby, h⟩ := h
  refine ⟨(fun h => by cases h), by simp; omega, by omega, fun x hx => hby x (List.mem_of_mem_drop (List.mem_of_mem_take hx)), ?_⟩
  rcases h with h | ⟨b', o', e, hb, hcell⟩
  · exact .inl (by omega)
  · simp only [Option.some.injEq, Addr.mk.injEq, and_true] at e
    obtain ⟨rfl, rfl⟩ := e
    refine .inr ⟨b, o + i, rfl, hb, fun j hj => ?_⟩
    have := hcell (i + j) (by omega)
    rw [Nat.add_assoc, this]
    congr 2
    simp [List.getD_eq_getElem?_getD, hj]
theorem flOk_iff {bs ws : List Int} : flOk bs ws = true ↔ bs.length = 3072 ∧ ws.length = 48 ∧ wrOk ws = true := by unfold flOk; simp
theorem inF_iff {i n : Int} : inF i n = true ↔ 0 ≤ i ∧ 0 ≤ n ∧ n ≤ 3072 - i := by unfold inF; simp
/-- What lies at a place. -/
def sub (bs : List Int) (i n : Int) : List Int := (bs.drop i.toNat).take n.toNat
def blankF (bs ws : List Int) (i n : Int) : Bool := flOk bs ws && (inF i n && blk (sub bs i n))

set_option maxHeartbeats 1000000 in
theorem specBlank (aB : Option Addr) (nB cB : Nat) (aW : Option Addr) (nW cW : Nat) (bs ws : List Int) (i n : Int) (w : World) (hB : Bs w aB nB cB bs) (hW : Is w aW nW cW ws) (hn : nB ≤ 2097152) (hm : nW ≤ 2097152)
    (h0 : -9223372036854775808 ≤ i) (h1 : i ≤ 9223372036854775807) (h2 : -9223372036854775808 ≤ n) (h3 : n ≤ 9223372036854775807) :
    Calls Try.prog 39 #[flV aB nB cB aW nW cW, .int .i64 i, .int .i64 n] w fun e w' => e = .returned (.bool (blankF bs ws i n)) ∧ Below w.heap.size w w' := by
  have HB : Hid (Below w.heap.size w (w.alloc (.cells #[.slice aB nB cB, .slice aW nW cW] 25))) := (Below.refl _ _).alloc (Nat.le_refl _) _
  have HA : Hid (Arr (w.alloc (.cells #[.slice aB nB cB, .slice aW nW cW] 25)) w.heap.size 25 [.slice aB nB cB, .slice aW nW cW]) := Arr.new _ _ _
  obtain ⟨r, hr⟩ : ∃ r, r = blankF bs ws i n := ⟨_, rfl⟩
  rw [← hr]
  have HR : Hid _ := hr
  clear hr
  go_enter Try.func39, Try.ntmps39
  go_wp2_with fail
  refine (specFlashOk aB nB cB aW nW cW bs ws _ (hB.below HB.out) (hW.below HB.out) hn hm).mono ?_
  rintro e w1 ⟨rfl, b1⟩
  have B1 := HB.out.trans (b1.mono HB.out.size)
  have A1 := Arr.kept HA.out b1
  have hB1 := hB.below B1
  clear HB HA b1 hB hW
  have hf : flOk bs ws = false ∨ flOk bs ws = true := by cases flOk bs ws <;> simp
  obtain ⟨f, hf'⟩ : ∃ f, f = flOk bs ws := ⟨_, rfl⟩
  rw [← hf'] at hf ⊢
  have HF : Hid _ := hf'
  clear hf'
  rcases hf with rfl | rfl
  · have : r = false := by rw [HR.out]; unfold blankF; rw [← HF.out]; rfl
    subst this
    go_wp2
    go_ret
    exact ⟨rfl, B1⟩
  · go_wp2_with fail
    refine (specIn i n _ h0 h1 h2 h3).mono ?_
    rintro e w2 ⟨rfl, e2⟩
    rw [e2]
    clear e2
    have hi : inF i n = false ∨ inF i n = true := by cases inF i n <;> simp
    obtain ⟨f, hf'⟩ : ∃ f, f = inF i n := ⟨_, rfl⟩
    rw [← hf'] at hi ⊢
    have HI : Hid _ := hf'
    clear hf'
    rcases hi with rfl | rfl
    · have : r = false := by rw [HR.out]; unfold blankF; rw [← HI.out]; simp
      subst this
      go_wp2
      go_ret
      exact ⟨rfl, B1⟩
    · obtain ⟨g0, g1, g2⟩ := inF_iff.1 HI.out.symm
      obtain ⟨l1, l2, l3⟩ := flOk_iff.1 HF.out.symm
      have hbl := hB1.2.1
      have hcap := hB1.2.2.1
      obtain ⟨I, rfl⟩ : ∃ I : Nat, i = (I : Int) := ⟨i.toNat, by omega⟩
      obtain ⟨K, rfl⟩ : ∃ K : Nat, n = (K : Int) := ⟨n.toNat, by omega⟩
      have hIK : I + K ≤ nB := by omega
      have hs : (sub bs (I : Int) (K : Int)) = (bs.drop I).take K := by simp [sub]
      have hr : r = blk ((bs.drop I).take K) := by rw [HR.out]; unfold blankF; rw [← HI.out, ← HF.out, hs]; simp
      clear HR HI HF hs
      obtain ⟨q0, q1, q2, q3, q4⟩ := hB1
      rcases q4 with h | ⟨b, o, rfl, hb, hc⟩
      · omega
      have hM := Bs.mid (w := w1) (b := b) (o := o) (n := nB) (c := cB) (xs := bs) ⟨q0, q1, q2, q3, .inr ⟨b, o, rfl, hb, hc⟩⟩ I K hIK
      clear q0 q1 q2 q3 hc
      have c0 := A1.cell 0
      simp at c0
      by_cases hI : I = cB
      · have hK : K = 0 := by omega
        subst hK
        subst hI
        have hz : Bs w1 (some ⟨b, o, none⟩) 0 0 ((bs.drop I).take 0) := ⟨(fun h => by cases h), by simp, by omega, by simp, .inl rfl⟩
        go_wp2_with fail
        refine (specBlankB _ _ _ _ _ hz (by omega)).mono ?_
        rintro e w2 ⟨rfl, e2⟩
        rw [e2]
        clear e2
        go_wp2
        go_ret
        exact ⟨by rw [hr]; rfl, B1⟩
      go_wp2_with fail
      refine (specBlankB _ _ _ _ _ hM (by omega)).mono ?_
      rintro e w2 ⟨rfl, e2⟩
      rw [e2]
      clear e2
      go_wp2
      go_ret
      exact ⟨by rw [hr]; rfl, B1⟩
end Go.Proofs.Ytcnlpdpbkkjkoaa

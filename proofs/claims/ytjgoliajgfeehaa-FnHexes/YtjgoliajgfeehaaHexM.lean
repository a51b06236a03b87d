/-
  What is proved here: plain facts: bytes come back from their digits, and whatever digits are read are just theirs; no condition beside the bytes being in 0 .. 255.
-/
import Derived.Test.YtjgoliajgfeehaaHexr
namespace Go.Proofs.Ytjgoliajgfeehaa
open Go.RowKit

theorem hexL_cons (x : Int) (xs : List Int) : hexL (x :: xs) = hexd (x / 16) :: hexd (x % 16) :: hexL xs := by simp [hexL]

theorem hexL_get : ∀ (xs : List Int) (j : Nat), j < xs.length → (hexL xs).getD (2 * j) 0 = hexd (xs.getD j 0 / 16) ∧ (hexL xs).getD (2 * j + 1) 0 = hexd (xs.getD j 0 % 16)
  | [], j, h => by simp at h
  | x :: xs, 0, _ => by rw [hexL_cons]; exact ⟨rfl, rfl⟩
  | x :: xs, j + 1, h => by
    have ih := hexL_get xs j (by simpa using h)
    rw [hexL_cons]
    have e1 : 2 * (j + 1) = 2 * j + 1 + 1 := by omega
    have e2 : 2 * (j + 1) + 1 = 2 * j + 1 + 1 + 1 := by omega
    rw [e2, e1]
    simpa using ih

theorem list_of_get (l r : List Int) (hl : l.length = r.length) (h : ∀ j, j < l.length → l.getD j 0 = r.getD j 0) : l = r := by
  refine List.ext_getElem hl ?_
  intro i h1 h2
  have := h i h1
  simpa [h1, h2] using this

theorem hexRd_hexL (xs : List Int) (hb : ∀ x ∈ xs, 0 ≤ x ∧ x < 256) (hn : xs.length ≤ 4096) : hexRd (hexL xs) = (xs, true) := by
  have hlen := hexL_len xs
  have hhalf : (hexL xs).length / 2 = xs.length := by omega
  have key : ∀ j, j < xs.length → nib ((hexL xs).getD (2 * j) 0) = xs.getD j 0 / 16 ∧ nib ((hexL xs).getD (2 * j + 1) 0) = xs.getD j 0 % 16 := fun j hj => by
    have hx := get_byte hb hj
    obtain ⟨e1, e2⟩ := hexL_get xs j hj
    rw [e1, e2]
    exact ⟨nib_hexd _ (by omega) (by omega), nib_hexd _ (by omega) (by omega)⟩
  rw [hexRd_yes (hexL xs) ⟨by omega, by omega, ?_⟩, hhalf]
  · have e : decL (hexL xs) xs.length = xs := by
      refine list_of_get _ _ (by rw [decL_len]) (fun j hj => ?_)
      rw [decL_len] at hj
      have e1 : (decL (hexL xs) xs.length).getD j 0 = pairV (hexL xs) j := by simp [decL, hj]
      rw [e1, pairV, (key j hj).1, (key j hj).2]
      omega
    rw [e]
  · rw [hhalf]
    intro j hj
    have hx := get_byte hb hj
    exact ⟨by rw [(key j hj).1]; omega, by rw [(key j hj).2]; omega⟩

theorem hexd_nib (c : Int) (h : 0 ≤ nib c) : hexd (nib c) = c := by
  unfold nib at h ⊢
  split
  · unfold hexd; rw [if_pos (by omega)]; omega
  · split
    · unfold hexd; rw [if_neg (by omega)]; omega
    · rename_i h1 h2
      rw [if_neg h1, if_neg h2] at h; omega

theorem hexL_hexRd (l : List Int) (h : (hexRd l).2 = true) : hexOf (hexRd l).1 = l := by
  by_cases hy : l.length % 2 = 0 ∧ l.length ≤ 8192 ∧ allOk l (l.length / 2)
  · rw [hexRd_yes l hy]
    obtain ⟨h1, h2, h3⟩ := hy
    show hexOf (decL l (l.length / 2)) = l
    have e0 : hexOf (decL l (l.length / 2)) = hexL (decL l (l.length / 2)) := by unfold hexOf; rw [if_neg (by rw [decL_len]; omega)]
    rw [e0]
    refine list_of_get _ _ (by rw [hexL_len, decL_len]; omega) (fun j hj => ?_)
    rw [hexL_len, decL_len] at hj
    have hk : j / 2 < (decL l (l.length / 2)).length := by rw [decL_len]; omega
    obtain ⟨g1, g2⟩ := hexL_get (decL l (l.length / 2)) (j / 2) hk
    have ek : (decL l (l.length / 2)).getD (j / 2) 0 = pairV l (j / 2) := by
      rw [decL_len] at hk
      simp [decL, hk]
    rw [decL_len] at hk
    obtain ⟨k1, k2⟩ := h3 (j / 2) hk
    have b1 := nib_lt (l.getD (2 * (j / 2)) 0)
    have b2 := nib_lt (l.getD (2 * (j / 2) + 1) 0)
    have ed : pairV l (j / 2) / 16 = nib (l.getD (2 * (j / 2)) 0) := by unfold pairV; omega
    have em : pairV l (j / 2) % 16 = nib (l.getD (2 * (j / 2) + 1) 0) := by unfold pairV; omega
    rw [ek, ed, hexd_nib _ k1] at g1
    rw [ek, em, hexd_nib _ k2] at g2
    rcases (show j = 2 * (j / 2) ∨ j = 2 * (j / 2) + 1 by omega) with e | e
    · rw [e]; exact g1
    · rw [e]; exact g2
  · rw [hexRd_no l hy] at h; simp at h
end Go.Proofs.Ytjgoliajgfeehaa

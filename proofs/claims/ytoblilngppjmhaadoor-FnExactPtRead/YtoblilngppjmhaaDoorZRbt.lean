/-
  What is proved here: bytes of parts and back; an answer that is read.
-/
import Derived.Test.YtoblilngppjmhaaDoorZHrd
import Derived.Test.YtoblilngppjmhaaDoorZKit
import Derived.Test.YtoblilngppjmhaaDoorZJrd
namespace Go.Proofs.YtoblilngppjmhaaDoor
open Go.RowKit
set_option maxRecDepth 100000

theorem ext16 {a b : List Int} (ha : a.length = 16) (hb : b.length = 16) (h : ∀ i, i < 16 → a.getD i 0 = b.getD i 0) : a = b := by
  apply List.ext_getElem (by omega)
  intro i h1 h2
  have := h i (by omega)
  simpa [List.getD, h1, h2] using this
theorem rd_bt {l : List Int} (hl : l.length = 16) : rdL (btL l) = l := by
  apply ext16 (rdL_len _) hl
  intro i hi
  have := btL_get l i (by omega)
  rw [rdL_get _ _ hi, this.1, this.2]
  omega
theorem ext32 {a b : List Int} {n : Nat} (ha : a.length = n) (hb : b.length = n) (h : ∀ i, i < n → a.getD i 0 = b.getD i 0) : a = b := by
  apply List.ext_getElem (by omega)
  intro i h1 h2
  have := h i (by omega)
  simpa [List.getD, h1, h2] using this
theorem bt_rd {bs : List Int} (hl : bs.length = 32) (hb : ∀ x ∈ bs, 0 ≤ x ∧ x < 256) : btL (rdL bs) = bs := by
  apply ext32 (n := 32) (by rw [btL_len, rdL_len]) hl
  intro i hi
  have h1 := btL_get (rdL bs) (i / 2) (by rw [rdL_len]; omega)
  rw [rdL_get _ _ (by omega)] at h1
  have g1 := gD_u8 hb (2 * (i / 2))
  have g2 := gD_u8 hb (2 * (i / 2) + 1)
  by_cases hp : i % 2 = 0
  · have e : 2 * (i / 2) = i := by omega
    rw [e] at h1 g1
    rw [h1.1]
    rw [e] at g2
    omega
  · have e : 2 * (i / 2) + 1 = i := by omega
    rw [e] at h1 g2
    rw [h1.2]
    omega
end Go.Proofs.YtoblilngppjmhaaDoor

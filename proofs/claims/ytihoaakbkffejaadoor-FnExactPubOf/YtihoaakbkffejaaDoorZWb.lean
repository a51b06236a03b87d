/-
  What is proved here: the contract of the specification's l3block: what SHA-512 makes of eight words and a block of 128 bytes.
-/
import Derived.Test.YtihoaakbkffejaaDoorZWw
import Derived.Test.YtihoaakbkffejaaDoorZArr
namespace Go.Proofs.YtihoaakbkffejaaDoor
open Go.RowKit

theorem Tryd.infoH8 : (Tryd.prog.info? 52).map (·.size) = some 8 := by kernel_rfl
abbrev Z8W : List Int := [0, 0, 0, 0, 0, 0, 0, 0]

/-- The words while the sums are made. -/
def zlw (hs st : List Int) (k : Nat) : List Int := (List.zipWith (fun x y => (x + y) % 18446744073709551616) hs st).take k ++ hs.drop k
theorem zlw_len (hs st : List Int) (h1 : hs.length = 8) (h2 : st.length = 8) (k : Nat) (hk : k ≤ 8) : (zlw hs st k).length = 8 := by simp [zlw, h1, h2]; omega
theorem zlw_get (hs st : List Int) (h1 : hs.length = 8) (h2 : st.length = 8) (k : Nat) (hk : k < 8) : (zlw hs st k).getD k 0 = hs.getD k 0 := by
  unfold zlw
  rw [List.getD_eq_getElem?_getD, List.getElem?_append_right (by simp [h1, h2]; omega)]
  simp [h1, h2, Nat.min_eq_left (show k ≤ 8 by omega)]
theorem zlw_set (hs st : List Int) (h1 : hs.length = 8) (h2 : st.length = 8) (k : Nat) (hk : k < 8) (v : Int) (hv : v = (hs.getD k 0 + st.getD k 0) % 18446744073709551616) :
    (U64 (zlw hs st k)).set k (.int .u64 v) = U64 (zlw hs st (k + 1)) := by
  subst hv
  have hz : (List.zipWith (fun x y => (x + y) % 18446744073709551616) hs st).length = 8 := by simp [h1, h2]
  have e1 : (List.zipWith (fun x y => (x + y) % 18446744073709551616) hs st).take (k + 1) = (List.zipWith (fun x y => (x + y) % 18446744073709551616) hs st).take k ++ [(hs.getD k 0 + st.getD k 0) % 18446744073709551616] := by
    rw [List.take_succ_eq_append_getElem (by omega)]
    congr 2
    rw [List.getElem_zipWith]
    simp [h1, h2, hk]
  have e2 : hs.drop k = hs.getD k 0 :: hs.drop (k + 1) := by
    rw [List.drop_eq_getElem_cons (by omega)]
    congr 1
    simp [h1, hk]
  unfold zlw
  rw [e1, e2]
  simp only [U64, List.map_append, List.map_cons, List.map_nil]
  rw [List.set_append_right _ _ (by simp [h1, h2]; omega)]
  simp [h1, h2, Nat.min_eq_left (show k ≤ 8 by omega)]

/-- Where the rounds' loop stands. -/
structure BdW (w W : World) (P G : Nat) (hs ws st : List Int) : Prop where
  a2 : Arr W w.heap.size 52 (U64 hs)
  a4 : Arr W (w.heap.size + 1) 52 (U64 Z8W)
  a5 : Arr W P 69 (U64 ws)
  a12 : Arr W G 52 (U64 st)
  fr : Below w.heap.size w W
  ge : w.heap.size + 1 < P
  gg : P < G
theorem BdW.go {w W W' : World} {P G : Nat} {hs ws st : List Int} (h : BdW w W P G hs ws st) (hb : Below W.heap.size W W') : BdW w W' P G hs ws st :=
  ⟨h.a2.kept hb, h.a4.kept hb, h.a5.kept hb, h.a12.kept hb, h.fr.trans (hb.mono h.fr.size), h.ge, h.gg⟩
theorem BdW.cells {w W : World} {P G : Nat} {hs ws : List Int} {a0 a1 a2 a3 a4 a5 a6 a7 : Int} (h : BdW w W P G hs ws [a0, a1, a2, a3, a4, a5, a6, a7]) (k : Nat) (hk : k < ws.length) :
    W.cell? ⟨G, 0, none⟩ = some (.int .u64 a0) ∧ W.cell? ⟨G, 1, none⟩ = some (.int .u64 a1) ∧ W.cell? ⟨G, 2, none⟩ = some (.int .u64 a2) ∧ W.cell? ⟨G, 3, none⟩ = some (.int .u64 a3) ∧ W.cell? ⟨G, 4, none⟩ = some (.int .u64 a4) ∧
      W.cell? ⟨G, 5, none⟩ = some (.int .u64 a5) ∧ W.cell? ⟨G, 6, none⟩ = some (.int .u64 a6) ∧ W.cell? ⟨G, 7, none⟩ = some (.int .u64 a7) ∧ W.cell? ⟨P, k, none⟩ = some (.int .u64 (ws.getD k 0)) :=
  ⟨h.a12.u64 0 (by simp), h.a12.u64 1 (by simp), h.a12.u64 2 (by simp), h.a12.u64 3 (by simp), h.a12.u64 4 (by simp), h.a12.u64 5 (by simp), h.a12.u64 6 (by simp), h.a12.u64 7 (by simp), h.a5.u64 k hk⟩
theorem BdW.set8 {w W : World} {P G : Nat} {hs ws : List Int} {a0 a1 a2 a3 a4 a5 a6 a7 : Int} (h : BdW w W P G hs ws [a0, a1, a2, a3, a4, a5, a6, a7]) (l0 l1 l2 l3 l4 l5 l6 l7 : Int) :
    BdW w ((((((((W.setCell ⟨G, 0, none⟩ (.int .u64 l0)).setCell ⟨G, 1, none⟩ (.int .u64 l1)).setCell ⟨G, 2, none⟩ (.int .u64 l2)).setCell ⟨G, 3, none⟩ (.int .u64 l3)).setCell ⟨G, 4, none⟩ (.int .u64 l4)).setCell ⟨G, 5, none⟩ (.int .u64 l5)).setCell ⟨G, 6, none⟩ (.int .u64 l6)).setCell ⟨G, 7, none⟩ (.int .u64 l7)) P G hs ws [l0, l1, l2, l3, l4, l5, l6, l7] := by
  have hg := h.ge
  have hgg := h.gg
  have oth : ∀ {g : Nat} {t : TypeId} {cs : List Value}, Arr W g t cs → g ≠ G → Arr ((((((((W.setCell ⟨G, 0, none⟩ (.int .u64 l0)).setCell ⟨G, 1, none⟩ (.int .u64 l1)).setCell ⟨G, 2, none⟩ (.int .u64 l2)).setCell ⟨G, 3, none⟩ (.int .u64 l3)).setCell ⟨G, 4, none⟩ (.int .u64 l4)).setCell ⟨G, 5, none⟩ (.int .u64 l5)).setCell ⟨G, 6, none⟩ (.int .u64 l6)).setCell ⟨G, 7, none⟩ (.int .u64 l7)) g t cs :=
    fun ha hne => (((((((ha.other _ _ hne).other _ _ hne).other _ _ hne).other _ _ hne).other _ _ hne).other _ _ hne).other _ _ hne).other _ _ hne
  exact ⟨oth h.a2 (by omega), oth h.a4 (by omega), oth h.a5 (by omega), h.a12.setW l0 l1 l2 l3 l4 l5 l6 l7, set8_below h.fr (by omega) _ _ _ _ _ _ _ _, h.ge, h.gg⟩
theorem BdW.two {w W : World} {P G : Nat} {hs ws : List Int} {a0 a1 a2 a3 a4 a5 a6 a7 x : Int} (h : BdW w W P G hs ws [a0, a1, a2, a3, a4, a5, a6, a7]) {k : Nat} (hk : k < ws.length) (hx : x = ws.getD k 0) :
    W.cell? ⟨G, 7, none⟩ = some (.int .u64 a7) ∧ W.cell? ⟨P, k, none⟩ = some (.int .u64 x) := by
  subst hx
  exact ⟨h.a12.u64 7 (by simp), h.a5.u64 k hk⟩

set_option maxRecDepth 100000 in
set_option maxHeartbeats 8000000 in
theorem specBlockW (hs : List Int) (a : Option Addr) (c : Nat) (xs : List Int) (w : World) (hl : hs.length = 8) (hx : Bs w a 128 c xs) :
    Calls Tryd.prog 24 #[.agg (U64 hs).toArray, .slice a 128 c] w fun e w' => e = .returned (.agg (U64 (blkw hs xs)).toArray) ∧ Below w.heap.size w w' := by
  obtain ⟨l0, l1, l2, l3, l4, l5, l6, l7, hhs⟩ := list8 hl
  obtain ⟨W, hW⟩ : ∃ W, W = (w.alloc (.cells (U64 hs).toArray 52)).alloc (.cells (U64 Z8W).toArray 52) := ⟨_, rfl⟩
  have hB : Below w.heap.size w W := by rw [hW]; exact ((Below.refl _ _).alloc (Nat.le_refl _) _).alloc (by simp) _
  have hA2 : Arr W w.heap.size 52 (U64 hs) := by rw [hW]; exact (Arr.new w _ _).alloc _
  have hA4 : Arr W (w.heap.size + 1) 52 (U64 Z8W) := by
    rw [hW]
    have := Arr.new (w.alloc (.cells (U64 hs).toArray 52)) (U64 Z8W) 52
    rw [show (w.alloc (.cells (U64 hs).toArray 52)).heap.size = w.heap.size + 1 by simp] at this
    exact this
  rw [hhs] at hW
  go_enter Tryd.func24, Tryd.ntmps24
  rw [show (Value.agg (U64 hs).toArray) = Value.agg #[.int .u64 l0, .int .u64 l1, .int .u64 l2, .int .u64 l3, .int .u64 l4, .int .u64 l5, .int .u64 l6, .int .u64 l7] by rw [hhs]; rfl]
  have HHS : Hid _ := hhs
  have HW : Hid _ := hW
  clear hhs hW
  go_wp2_with fail
  rw [show (w.alloc (.cells #[.int .u64 l0, .int .u64 l1, .int .u64 l2, .int .u64 l3, .int .u64 l4, .int .u64 l5, .int .u64 l6, .int .u64 l7] 52)).alloc (.cells #[.int .u64 0, .int .u64 0, .int .u64 0, .int .u64 0, .int .u64 0, .int .u64 0, .int .u64 0, .int .u64 0] 52) = W from HW.out.symm]
  refine (specWordsW a c xs _ (hx.below hB)).mono ?_
  rintro e w2 ⟨rfl, b2⟩
  obtain ⟨ws, hws⟩ : ∃ ws, ws = schedW xs 80 := ⟨_, rfl⟩
  have hwl : ws.length = 80 := by rw [hws]; exact schedW_len xs 80
  rw [← hws]
  have HK : Hid (blkw hs xs = zlw hs (rndw ws KW hs 80) 8) := by
    unfold Hid zlw blkw
    rw [← hws]
    have : (List.zipWith (fun x y => (x + y) % 18446744073709551616) hs (rndw ws KW hs 80)).length = 8 := by simp [rndw_len _ _ hl, hl]
    rw [List.take_of_length_le (by omega)]
    simp [hl]
  have h2 := hA2.kept b2
  have h4 := hA4.kept b2
  have hb := hB.trans (b2.mono hB.size)
  clear hws hA2 hA4 hB b2 HW hx
  have hz80 := zero80
  have hsz80 : (Tryd.prog.info? 69).map (·.size) = some (U64 ws).toArray.size := by simpa [hwl] using Tryd.infoW80
  have hZ := Arr.new w2 (U64 Z80) 69
  have hsz2 := h4.lt
  have hX : Arr ((w2.alloc (.cells (U64 Z80).toArray 69)).setRow w2.heap.size (U64 ws).toArray) w.heap.size 52 (U64 [l0, l1, l2, l3, l4, l5, l6, l7]) := by
    have h := h2
    rw [HHS.out] at h
    exact (h.alloc _).rowOther _ _ (by omega)
  have hX2 : Arr ((w2.alloc (.cells (U64 Z80).toArray 69)).setRow w2.heap.size (U64 ws).toArray) w.heap.size 52 (U64 hs) := (h2.alloc _).rowOther _ _ (by omega)
  have hX4 : Arr ((w2.alloc (.cells (U64 Z80).toArray 69)).setRow w2.heap.size (U64 ws).toArray) (w.heap.size + 1) 52 (U64 Z8W) := (h4.alloc _).rowOther _ _ (by omega)
  have hX5 : Arr ((w2.alloc (.cells (U64 Z80).toArray 69)).setRow w2.heap.size (U64 ws).toArray) w2.heap.size 69 (U64 ws) := hZ.row (U64 ws)
  have hXb : Below w.heap.size w ((w2.alloc (.cells (U64 Z80).toArray 69)).setRow w2.heap.size (U64 ws).toArray) := setRow_below (hb.alloc hb.size _) w2.heap.size (U64 ws).toArray hb.size
  have c0 : ((w2.alloc (.cells #[.int .u64 0, .int .u64 0, .int .u64 0, .int .u64 0, .int .u64 0, .int .u64 0, .int .u64 0, .int .u64 0, .int .u64 0, .int .u64 0, .int .u64 0, .int .u64 0, .int .u64 0, .int .u64 0, .int .u64 0, .int .u64 0, .int .u64 0, .int .u64 0, .int .u64 0, .int .u64 0, .int .u64 0, .int .u64 0, .int .u64 0, .int .u64 0, .int .u64 0, .int .u64 0, .int .u64 0, .int .u64 0, .int .u64 0, .int .u64 0, .int .u64 0, .int .u64 0, .int .u64 0, .int .u64 0, .int .u64 0, .int .u64 0, .int .u64 0, .int .u64 0, .int .u64 0, .int .u64 0, .int .u64 0, .int .u64 0, .int .u64 0, .int .u64 0, .int .u64 0, .int .u64 0, .int .u64 0, .int .u64 0, .int .u64 0, .int .u64 0, .int .u64 0, .int .u64 0, .int .u64 0, .int .u64 0, .int .u64 0, .int .u64 0, .int .u64 0, .int .u64 0, .int .u64 0, .int .u64 0, .int .u64 0, .int .u64 0, .int .u64 0, .int .u64 0, .int .u64 0, .int .u64 0, .int .u64 0, .int .u64 0, .int .u64 0, .int .u64 0, .int .u64 0, .int .u64 0, .int .u64 0, .int .u64 0, .int .u64 0, .int .u64 0, .int .u64 0, .int .u64 0, .int .u64 0, .int .u64 0] 69)).setRow w2.heap.size (U64 ws).toArray).cell? ⟨w.heap.size, 0, none⟩ = some (.int .u64 l0) := by simpa using hX.u64 0 (by simp)
  have c1 : ((w2.alloc (.cells #[.int .u64 0, .int .u64 0, .int .u64 0, .int .u64 0, .int .u64 0, .int .u64 0, .int .u64 0, .int .u64 0, .int .u64 0, .int .u64 0, .int .u64 0, .int .u64 0, .int .u64 0, .int .u64 0, .int .u64 0, .int .u64 0, .int .u64 0, .int .u64 0, .int .u64 0, .int .u64 0, .int .u64 0, .int .u64 0, .int .u64 0, .int .u64 0, .int .u64 0, .int .u64 0, .int .u64 0, .int .u64 0, .int .u64 0, .int .u64 0, .int .u64 0, .int .u64 0, .int .u64 0, .int .u64 0, .int .u64 0, .int .u64 0, .int .u64 0, .int .u64 0, .int .u64 0, .int .u64 0, .int .u64 0, .int .u64 0, .int .u64 0, .int .u64 0, .int .u64 0, .int .u64 0, .int .u64 0, .int .u64 0, .int .u64 0, .int .u64 0, .int .u64 0, .int .u64 0, .int .u64 0, .int .u64 0, .int .u64 0, .int .u64 0, .int .u64 0, .int .u64 0, .int .u64 0, .int .u64 0, .int .u64 0, .int .u64 0, .int .u64 0, .int .u64 0, .int .u64 0, .int .u64 0, .int .u64 0, .int .u64 0, .int .u64 0, .int .u64 0, .int .u64 0, .int .u64 0, .int .u64 0, .int .u64 0, .int .u64 0, .int .u64 0, .int .u64 0, .int .u64 0, .int .u64 0, .int .u64 0] 69)).setRow w2.heap.size (U64 ws).toArray).cell? ⟨w.heap.size, 1, none⟩ = some (.int .u64 l1) := by simpa using hX.u64 1 (by simp)
  have c2 : ((w2.alloc (.cells #[.int .u64 0, .int .u64 0, .int .u64 0, .int .u64 0, .int .u64 0, .int .u64 0, .int .u64 0, .int .u64 0, .int .u64 0, .int .u64 0, .int .u64 0, .int .u64 0, .int .u64 0, .int .u64 0, .int .u64 0, .int .u64 0, .int .u64 0, .int .u64 0, .int .u64 0, .int .u64 0, .int .u64 0, .int .u64 0, .int .u64 0, .int .u64 0, .int .u64 0, .int .u64 0, .int .u64 0, .int .u64 0, .int .u64 0, .int .u64 0, .int .u64 0, .int .u64 0, .int .u64 0, .int .u64 0, .int .u64 0, .int .u64 0, .int .u64 0, .int .u64 0, .int .u64 0, .int .u64 0, .int .u64 0, .int .u64 0, .int .u64 0, .int .u64 0, .int .u64 0, .int .u64 0, .int .u64 0, .int .u64 0, .int .u64 0, .int .u64 0, .int .u64 0, .int .u64 0, .int .u64 0, .int .u64 0, .int .u64 0, .int .u64 0, .int .u64 0, .int .u64 0, .int .u64 0, .int .u64 0, .int .u64 0, .int .u64 0, .int .u64 0, .int .u64 0, .int .u64 0, .int .u64 0, .int .u64 0, .int .u64 0, .int .u64 0, .int .u64 0, .int .u64 0, .int .u64 0, .int .u64 0, .int .u64 0, .int .u64 0, .int .u64 0, .int .u64 0, .int .u64 0, .int .u64 0, .int .u64 0] 69)).setRow w2.heap.size (U64 ws).toArray).cell? ⟨w.heap.size, 2, none⟩ = some (.int .u64 l2) := by simpa using hX.u64 2 (by simp)
  have c3 : ((w2.alloc (.cells #[.int .u64 0, .int .u64 0, .int .u64 0, .int .u64 0, .int .u64 0, .int .u64 0, .int .u64 0, .int .u64 0, .int .u64 0, .int .u64 0, .int .u64 0, .int .u64 0, .int .u64 0, .int .u64 0, .int .u64 0, .int .u64 0, .int .u64 0, .int .u64 0, .int .u64 0, .int .u64 0, .int .u64 0, .int .u64 0, .int .u64 0, .int .u64 0, .int .u64 0, .int .u64 0, .int .u64 0, .int .u64 0, .int .u64 0, .int .u64 0, .int .u64 0, .int .u64 0, .int .u64 0, .int .u64 0, .int .u64 0, .int .u64 0, .int .u64 0, .int .u64 0, .int .u64 0, .int .u64 0, .int .u64 0, .int .u64 0, .int .u64 0, .int .u64 0, .int .u64 0, .int .u64 0, .int .u64 0, .int .u64 0, .int .u64 0, .int .u64 0, .int .u64 0, .int .u64 0, .int .u64 0, .int .u64 0, .int .u64 0, .int .u64 0, .int .u64 0, .int .u64 0, .int .u64 0, .int .u64 0, .int .u64 0, .int .u64 0, .int .u64 0, .int .u64 0, .int .u64 0, .int .u64 0, .int .u64 0, .int .u64 0, .int .u64 0, .int .u64 0, .int .u64 0, .int .u64 0, .int .u64 0, .int .u64 0, .int .u64 0, .int .u64 0, .int .u64 0, .int .u64 0, .int .u64 0, .int .u64 0] 69)).setRow w2.heap.size (U64 ws).toArray).cell? ⟨w.heap.size, 3, none⟩ = some (.int .u64 l3) := by simpa using hX.u64 3 (by simp)
  have c4 : ((w2.alloc (.cells #[.int .u64 0, .int .u64 0, .int .u64 0, .int .u64 0, .int .u64 0, .int .u64 0, .int .u64 0, .int .u64 0, .int .u64 0, .int .u64 0, .int .u64 0, .int .u64 0, .int .u64 0, .int .u64 0, .int .u64 0, .int .u64 0, .int .u64 0, .int .u64 0, .int .u64 0, .int .u64 0, .int .u64 0, .int .u64 0, .int .u64 0, .int .u64 0, .int .u64 0, .int .u64 0, .int .u64 0, .int .u64 0, .int .u64 0, .int .u64 0, .int .u64 0, .int .u64 0, .int .u64 0, .int .u64 0, .int .u64 0, .int .u64 0, .int .u64 0, .int .u64 0, .int .u64 0, .int .u64 0, .int .u64 0, .int .u64 0, .int .u64 0, .int .u64 0, .int .u64 0, .int .u64 0, .int .u64 0, .int .u64 0, .int .u64 0, .int .u64 0, .int .u64 0, .int .u64 0, .int .u64 0, .int .u64 0, .int .u64 0, .int .u64 0, .int .u64 0, .int .u64 0, .int .u64 0, .int .u64 0, .int .u64 0, .int .u64 0, .int .u64 0, .int .u64 0, .int .u64 0, .int .u64 0, .int .u64 0, .int .u64 0, .int .u64 0, .int .u64 0, .int .u64 0, .int .u64 0, .int .u64 0, .int .u64 0, .int .u64 0, .int .u64 0, .int .u64 0, .int .u64 0, .int .u64 0, .int .u64 0] 69)).setRow w2.heap.size (U64 ws).toArray).cell? ⟨w.heap.size, 4, none⟩ = some (.int .u64 l4) := by simpa using hX.u64 4 (by simp)
  have c5 : ((w2.alloc (.cells #[.int .u64 0, .int .u64 0, .int .u64 0, .int .u64 0, .int .u64 0, .int .u64 0, .int .u64 0, .int .u64 0, .int .u64 0, .int .u64 0, .int .u64 0, .int .u64 0, .int .u64 0, .int .u64 0, .int .u64 0, .int .u64 0, .int .u64 0, .int .u64 0, .int .u64 0, .int .u64 0, .int .u64 0, .int .u64 0, .int .u64 0, .int .u64 0, .int .u64 0, .int .u64 0, .int .u64 0, .int .u64 0, .int .u64 0, .int .u64 0, .int .u64 0, .int .u64 0, .int .u64 0, .int .u64 0, .int .u64 0, .int .u64 0, .int .u64 0, .int .u64 0, .int .u64 0, .int .u64 0, .int .u64 0, .int .u64 0, .int .u64 0, .int .u64 0, .int .u64 0, .int .u64 0, .int .u64 0, .int .u64 0, .int .u64 0, .int .u64 0, .int .u64 0, .int .u64 0, .int .u64 0, .int .u64 0, .int .u64 0, .int .u64 0, .int .u64 0, .int .u64 0, .int .u64 0, .int .u64 0, .int .u64 0, .int .u64 0, .int .u64 0, .int .u64 0, .int .u64 0, .int .u64 0, .int .u64 0, .int .u64 0, .int .u64 0, .int .u64 0, .int .u64 0, .int .u64 0, .int .u64 0, .int .u64 0, .int .u64 0, .int .u64 0, .int .u64 0, .int .u64 0, .int .u64 0, .int .u64 0] 69)).setRow w2.heap.size (U64 ws).toArray).cell? ⟨w.heap.size, 5, none⟩ = some (.int .u64 l5) := by simpa using hX.u64 5 (by simp)
  have c6 : ((w2.alloc (.cells #[.int .u64 0, .int .u64 0, .int .u64 0, .int .u64 0, .int .u64 0, .int .u64 0, .int .u64 0, .int .u64 0, .int .u64 0, .int .u64 0, .int .u64 0, .int .u64 0, .int .u64 0, .int .u64 0, .int .u64 0, .int .u64 0, .int .u64 0, .int .u64 0, .int .u64 0, .int .u64 0, .int .u64 0, .int .u64 0, .int .u64 0, .int .u64 0, .int .u64 0, .int .u64 0, .int .u64 0, .int .u64 0, .int .u64 0, .int .u64 0, .int .u64 0, .int .u64 0, .int .u64 0, .int .u64 0, .int .u64 0, .int .u64 0, .int .u64 0, .int .u64 0, .int .u64 0, .int .u64 0, .int .u64 0, .int .u64 0, .int .u64 0, .int .u64 0, .int .u64 0, .int .u64 0, .int .u64 0, .int .u64 0, .int .u64 0, .int .u64 0, .int .u64 0, .int .u64 0, .int .u64 0, .int .u64 0, .int .u64 0, .int .u64 0, .int .u64 0, .int .u64 0, .int .u64 0, .int .u64 0, .int .u64 0, .int .u64 0, .int .u64 0, .int .u64 0, .int .u64 0, .int .u64 0, .int .u64 0, .int .u64 0, .int .u64 0, .int .u64 0, .int .u64 0, .int .u64 0, .int .u64 0, .int .u64 0, .int .u64 0, .int .u64 0, .int .u64 0, .int .u64 0, .int .u64 0, .int .u64 0] 69)).setRow w2.heap.size (U64 ws).toArray).cell? ⟨w.heap.size, 6, none⟩ = some (.int .u64 l6) := by simpa using hX.u64 6 (by simp)
  have c7 : ((w2.alloc (.cells #[.int .u64 0, .int .u64 0, .int .u64 0, .int .u64 0, .int .u64 0, .int .u64 0, .int .u64 0, .int .u64 0, .int .u64 0, .int .u64 0, .int .u64 0, .int .u64 0, .int .u64 0, .int .u64 0, .int .u64 0, .int .u64 0, .int .u64 0, .int .u64 0, .int .u64 0, .int .u64 0, .int .u64 0, .int .u64 0, .int .u64 0, .int .u64 0, .int .u64 0, .int .u64 0, .int .u64 0, .int .u64 0, .int .u64 0, .int .u64 0, .int .u64 0, .int .u64 0, .int .u64 0, .int .u64 0, .int .u64 0, .int .u64 0, .int .u64 0, .int .u64 0, .int .u64 0, .int .u64 0, .int .u64 0, .int .u64 0, .int .u64 0, .int .u64 0, .int .u64 0, .int .u64 0, .int .u64 0, .int .u64 0, .int .u64 0, .int .u64 0, .int .u64 0, .int .u64 0, .int .u64 0, .int .u64 0, .int .u64 0, .int .u64 0, .int .u64 0, .int .u64 0, .int .u64 0, .int .u64 0, .int .u64 0, .int .u64 0, .int .u64 0, .int .u64 0, .int .u64 0, .int .u64 0, .int .u64 0, .int .u64 0, .int .u64 0, .int .u64 0, .int .u64 0, .int .u64 0, .int .u64 0, .int .u64 0, .int .u64 0, .int .u64 0, .int .u64 0, .int .u64 0, .int .u64 0, .int .u64 0] 69)).setRow w2.heap.size (U64 ws).toArray).cell? ⟨w.heap.size, 7, none⟩ = some (.int .u64 l7) := by simpa using hX.u64 7 (by simp)
  obtain ⟨X, hXe⟩ : ∃ X, X = ((w2.alloc (.cells #[.int .u64 0, .int .u64 0, .int .u64 0, .int .u64 0, .int .u64 0, .int .u64 0, .int .u64 0, .int .u64 0, .int .u64 0, .int .u64 0, .int .u64 0, .int .u64 0, .int .u64 0, .int .u64 0, .int .u64 0, .int .u64 0, .int .u64 0, .int .u64 0, .int .u64 0, .int .u64 0, .int .u64 0, .int .u64 0, .int .u64 0, .int .u64 0, .int .u64 0, .int .u64 0, .int .u64 0, .int .u64 0, .int .u64 0, .int .u64 0, .int .u64 0, .int .u64 0, .int .u64 0, .int .u64 0, .int .u64 0, .int .u64 0, .int .u64 0, .int .u64 0, .int .u64 0, .int .u64 0, .int .u64 0, .int .u64 0, .int .u64 0, .int .u64 0, .int .u64 0, .int .u64 0, .int .u64 0, .int .u64 0, .int .u64 0, .int .u64 0, .int .u64 0, .int .u64 0, .int .u64 0, .int .u64 0, .int .u64 0, .int .u64 0, .int .u64 0, .int .u64 0, .int .u64 0, .int .u64 0, .int .u64 0, .int .u64 0, .int .u64 0, .int .u64 0, .int .u64 0, .int .u64 0, .int .u64 0, .int .u64 0, .int .u64 0, .int .u64 0, .int .u64 0, .int .u64 0, .int .u64 0, .int .u64 0, .int .u64 0, .int .u64 0, .int .u64 0, .int .u64 0, .int .u64 0, .int .u64 0] 69)).setRow w2.heap.size (U64 ws).toArray) := ⟨_, rfl⟩
  rw [← hXe] at c0 c1 c2 c3 c4 c5 c6 c7
  have hXd : (w2.alloc (.cells (U64 Z80).toArray 69)).setRow w2.heap.size (U64 ws).toArray = X := hXe.symm
  rw [hXd] at hX2 hX4 hX5 hXb
  have HXE : Hid _ := hXe
  clear hX hXd hXe
  go_wp2_with (first
    | (refine wpList_store_row rfl 69 _ _ rfl w2.heap.size (U64 ws).toArray rfl rfl 69 _ hZ hsz80 (by simp [hwl]) (by simp [Value.oneCell']) ?_
       rw [← HXE.out]))
  have hG := hX5.lt
  have BD0 : BdW w (X.alloc (.cells (U64 [l0, l1, l2, l3, l4, l5, l6, l7]).toArray 52)) w2.heap.size X.heap.size hs ws (rndw ws KW hs 0) :=
    ⟨hX2.alloc _, hX4.alloc _, hX5.alloc _, by rw [show rndw ws KW hs 0 = [l0, l1, l2, l3, l4, l5, l6, l7] from HHS.out]; exact Arr.new _ _ _, hXb.alloc hXb.size _, hsz2, hG⟩
  clear c0 c1 c2 c3 c4 c5 c6 c7 hX2 hX4 hX5 hXb HXE hZ h2 h4 hb hz80 hsz80
  obtain ⟨G, hGe⟩ : ∃ G, G = X.heap.size := ⟨_, rfl⟩
  obtain ⟨P, hPe⟩ : ∃ P, P = w2.heap.size := ⟨_, rfl⟩
  rw [← hGe, ← hPe] at BD0 ⊢
  clear hGe hPe hG hsz2
  go_loopw [7] (fun i wr' => ∃ k : Nat, k ≤ 80 ∧ i = .int .i64 k ∧ BdW w wr' P G hs ws (rndw ws KW hs k)) (fun i _ => 80 - (intOf i).toNat)
  case atStart => exact ⟨0, by omega, rfl, BD0⟩
  case round =>
    clear BD0
    obtain ⟨k, hk, rfl, BD⟩ := hrel
    by_cases hlt : k < 80
    · obtain ⟨x, hxx⟩ : ∃ x, x = ws.getD k 0 := ⟨_, rfl⟩
      obtain ⟨y, hyy⟩ : ∃ y, y = KW.getD k 0 := ⟨_, rfl⟩
      have hr : rndw ws KW hs (k + 1) = stpw (rndw ws KW hs k) (x + y) := by rw [hxx, hyy]; rfl
      have h8 := rndw_len ws KW hl k
      obtain ⟨a0, a1, a2, a3, a4, a5, a6, a7, h8e⟩ := list8 h8
      have hr' : rndw ws KW hs (k + 1) = stpw8 a0 a1 a2 a3 a4 a5 a6 a7 (x + y) := by rw [hr, h8e]; rfl
      rw [h8e] at BD
      have HR : Hid _ := hr'
      have HX : Hid _ := hxx
      have HYY : Hid _ := hyy
      clear hr hr' h8 h8e hxx hyy
      obtain ⟨d0, d1, d2, d3, d4, d5, d6, d7, dx⟩ := BD.cells k (by omega)
      rw [← HX.out] at dx
      have hk0 : (0 : Int) ≤ (k : Int) := by omega
      have hk64 : (k : Int) < 80 := by omega
      have hsg : IntKind.u64.signed = false := rfl
      go_wp2
      go_quiet (first | (go_at_call_of 39 (Value.int IntKind.i64 41); refine Calls.quiet_of (specTurnW a4 41 (by omega) (by omega) _ rfl _)) | (go_at_call_of 39 (Value.int IntKind.i64 18); refine Calls.quiet_of (specTurnW a4 18 (by omega) (by omega) _ rfl _)) | (go_at_call_of 39 (Value.int IntKind.i64 14); refine Calls.quiet_of (specTurnW a4 14 (by omega) (by omega) _ rfl _)))
      have eS : bits .xor .u64 (bits .xor .u64 (rotw a4 14) (rotw a4 18)) (rotw a4 41) = cS1 a4 := rfl
      rw [eS]
      go_wp2
      have eC : bits .xor .u64 (bits .and .u64 a4 a5) (bits .and .u64 (bits .xor .u64 IntKind.u64.max a4) a6) = chow a4 a5 a6 := rfl
      rw [eC]
      clear eS eC
      have hkw : k < ws.length := by omega
      have BDr : BdW w (wr.drewN nq).drew P G hs ws [a0, a1, a2, a3, a4, a5, a6, a7] := BD.go (bel_drewN wr (nq + 1))
      clear BD d0 d1 d2 d3 d4 d5 d6 d7 dx
      go_region_held3 (fun W => W.cell? ⟨G, 7, none⟩ = some (.int .u64 a7) ∧ W.cell? ⟨P, k, none⟩ = some (.int .u64 x)) (exact BDr.two hkw HX.out)
        ((go_at_call 40; refine (specRoundW k hlt _).mono ?_; rintro e w2 ⟨rfl, hb2⟩; rw [← HYY.out]; replace BDr := BDr.go hb2))
      obtain ⟨T, hT⟩ : ∃ T, T = IntKind.u64.wrap (IntKind.u64.wrap (IntKind.u64.wrap (IntKind.u64.wrap (a7 + cS1 a4) + chow a4 a5 a6) + y) + x) := ⟨_, rfl⟩
      rw [← hT]
      have HT : Hid _ := hT
      clear hT
      obtain ⟨d0, d1, d2, d3, d4, d5, d6, d7, dx⟩ := BDr.cells k hkw
      clear dx
      go_wp2
      go_quiet (first | (go_at_call_of 39 (Value.int IntKind.i64 39); refine Calls.quiet_of (specTurnW a0 39 (by omega) (by omega) _ rfl _)) | (go_at_call_of 39 (Value.int IntKind.i64 34); refine Calls.quiet_of (specTurnW a0 34 (by omega) (by omega) _ rfl _)) | (go_at_call_of 39 (Value.int IntKind.i64 28); refine Calls.quiet_of (specTurnW a0 28 (by omega) (by omega) _ rfl _)))
      have eS : bits .xor .u64 (bits .xor .u64 (rotw a0 28) (rotw a0 34)) (rotw a0 39) = cS0 a0 := rfl
      rw [eS]
      clear eS
      have f0 := BDr.a12.frozen
      go_wp2
      have hst : stpw8 a0 a1 a2 a3 a4 a5 a6 a7 (x + y) = [IntKind.u64.wrap (IntKind.u64.wrap (T + cS0 a0) + majw a0 a1 a2), a0, a1, a2, IntKind.u64.wrap (a3 + T), a4, a5, a6] := by
        have hT := HT.out
        simp only [wrap_u64] at hT ⊢
        unfold stpw8
        rw [show (a7 + cS1 a4 + chow a4 a5 a6 + (x + y) + (cS0 a0 + majw a0 a1 a2)) % 18446744073709551616 = ((T + cS0 a0) % 18446744073709551616 + majw a0 a1 a2) % 18446744073709551616 by omega, show (a3 + (a7 + cS1 a4 + chow a4 a5 a6 + (x + y))) % 18446744073709551616 = (a3 + T) % 18446744073709551616 by omega]
      have BD2 := (BDr.go (bel_drewN w2 nq)).set8 (IntKind.u64.wrap (IntKind.u64.wrap (T + cS0 a0) + majw a0 a1 a2)) a0 a1 a2 (IntKind.u64.wrap (a3 + T)) a4 a5 a6
      rw [← hst, ← HR.out] at BD2
      clear hst HT HR
      refine ⟨⟨k + 1, by omega, by go_num, BD2⟩, ?_⟩
      simp [intOf]
      omega
    · have hkn : k = 80 := by omega
      subst hkn
      have hst := rndw_len ws KW hl 80
      obtain ⟨st, hste⟩ : ∃ st, st = rndw ws KW hs 80 := ⟨_, rfl⟩
      rw [← hste] at hst BD
      have HK2 : Hid (blkw hs xs = zlw hs st 8) := by unfold Hid; rw [HK.out, hste]
      clear hste HK
      have h2 : Arr wr w.heap.size 52 (U64 (zlw hs st 0)) := by
        have : zlw hs st 0 = hs := by simp [zlw]
        rw [this]; exact BD.a2
      have h4 := BD.a4
      have h12 := BD.a12
      have hb := BD.fr
      have hge := BD.ge
      have hgg := BD.gg
      clear BD
      go_wp2
      go_loopw [13] (fun i wr' => ∃ k : Nat, k ≤ 8 ∧ i = .int .i64 k ∧ Arr wr' w.heap.size 52 (U64 (zlw hs st k)) ∧ Arr wr' (w.heap.size + 1) 52 (U64 Z8W) ∧ Arr wr' G 52 (U64 st) ∧ Below w.heap.size w wr') (fun i _ => 8 - (intOf i).toNat)
      case atStart => exact ⟨0, by omega, rfl, h2, h4, h12, hb⟩
      case round =>
        clear h2 h4 h12 hb
        obtain ⟨k, hk, rfl, h2, h4, h12, hb⟩ := hrel
        by_cases hlt : k < 8
        · obtain ⟨x, hxx⟩ : ∃ x, x = st.getD k 0 := ⟨_, rfl⟩
          obtain ⟨y, hyy⟩ : ∃ y, y = hs.getD k 0 := ⟨_, rfl⟩
          have hcx := h12.u64 k (by omega)
          rw [← hxx] at hcx
          have hck := h2.u64 k (by rw [zlw_len hs st hl hst k hk]; omega)
          rw [zlw_get hs st hl hst k hlt, ← hyy] at hck
          have hfz := h2.frozen k
          have h2' := h2.set k (.int .u64 ((y + x) % 18446744073709551616))
          rw [zlw_set hs st hl hst k hlt _ (by rw [hxx, hyy])] at h2'
          have H2 : Hid (Arr (wr.setCell ⟨w.heap.size, k, none⟩ (.int .u64 ((y + x) % 18446744073709551616))).drew w.heap.size 52 (U64 (zlw hs st (k + 1)))) := h2'
          have H4 : Hid (Arr (wr.setCell ⟨w.heap.size, k, none⟩ (.int .u64 ((y + x) % 18446744073709551616))).drew (w.heap.size + 1) 52 (U64 Z8W)) := h4.other ⟨w.heap.size, k, none⟩ (.int .u64 ((y + x) % 18446744073709551616)) (by simp)
          have H12 : Hid (Arr (wr.setCell ⟨w.heap.size, k, none⟩ (.int .u64 ((y + x) % 18446744073709551616))).drew G 52 (U64 st)) := h12.other ⟨w.heap.size, k, none⟩ (.int .u64 ((y + x) % 18446744073709551616)) (by show G ≠ w.heap.size; omega)
          have HB : Hid _ := (hb.setCell (p := ⟨w.heap.size, k, none⟩) (Nat.le_refl _) (.int .u64 ((y + x) % 18446744073709551616))).drew
          have hwr : IntKind.u64.wrap (y + x) = (y + x) % 18446744073709551616 := wrap_u64 _
          clear h2' h2 h4 h12 hb hxx hyy
          have hk8 : (k : Int) < 8 := by omega
          have hk0 : (0 : Int) ≤ (k : Int) := by omega
          go_wp2
          go_region
          go_wp2
          go_roundw
          case rel => exact ⟨k + 1, by omega, by go_num, H2.out, H4.out, H12.out, HB.out⟩
          case measure => simp [intOf]; omega
        · have hkn : k = 8 := by omega
          subst hkn
          have hzl := zlw_len hs st hl hst 8 (by omega)
          obtain ⟨z, hze⟩ : ∃ z, z = zlw hs st 8 := ⟨_, rfl⟩
          rw [← hze] at h2 hzl
          have HZ : Hid (blkw hs xs = z) := by unfold Hid; rw [HK2.out, hze]
          clear hze HK2 hst
          have h4' := h4.row (U64 z)
          have hb' := setRow_below hb (w.heap.size + 1) (U64 z).toArray (by omega)
          have hsz : (Tryd.prog.info? 52).map (·.size) = some (U64 z).toArray.size := by simpa [hzl] using Tryd.infoH8
          go_wp2_with (first
            | (refine wpList_load_row rfl 52 _ rfl w.heap.size rfl 52 (U64 z).toArray (0, 0) _ h2 Tryd.underlying52 rfl hsz ?_)
            | (refine wpList_store_row rfl 52 _ _ rfl (w.heap.size + 1) (U64 z).toArray rfl rfl 52 _ h4 hsz (by simp [hzl]) (by simp [Value.oneCell']) ?_))
          exact bodyPost_ret (results_cell_row rfl _ _ (w.heap.size + 1) 52 (U64 z).toArray (0, 0) _ rfl h4' Tryd.underlying52 rfl hsz) rfl ⟨by rw [HZ.out], hb'⟩
end Go.Proofs.YtihoaakbkffejaaDoor

/-
  What is proved here: the contract of the specification's l2block: what SHA-256 makes of eight words and a block of 64 bytes; contracts of the specification's l2from and l2first, and of both ShaBlocks, for every two slices of at most 2^21 elements. Where the program's two tables hold what its text lays into them.
-/
import Derived.Test.YtofflhhlacdgfaaDoorJM12
import Derived.Test.YtofflhhlacdgfaaDoorJM10
namespace Go.Proofs.YtofflhhlacdgfaaDoor
set_option maxRecDepth 100000
open Go.RowKit

abbrev Z8 : List Int := [0, 0, 0, 0, 0, 0, 0, 0]
theorem Tryd.infoW8 : (Tryd.prog.info? 133).map (·.size) = some 8 := by kernel_rfl

theorem or4 {x0 x1 x2 x3 : Int} (h0 : 0 ≤ x0) (g0 : x0 < 256) (h1 : 0 ≤ x1) (g1 : x1 < 256) (h2 : 0 ≤ x2) (g2 : x2 < 256) (h3 : 0 ≤ x3) (g3 : x3 < 256) :
    bits .or .u32 (bits .or .u32 (bits .or .u32 (x0 * 16777216) (x1 * 65536)) (x2 * 256)) x3 = ((x0 * 256 + x1) * 256 + x2) * 256 + x3 := by
  have a1 := u32_or24 (x := x0 * 16777216) (y := x1 * 65536) (by omega) (by omega) (by omega) (by omega) (by omega)
  rw [a1]
  have a2 := u32_or16 (x := x0 * 16777216 + x1 * 65536) (y := x2 * 256) (by omega) (by omega) (by omega) (by omega) (by omega)
  rw [a2]
  have a3 := u32_or8 (x := x0 * 16777216 + x1 * 65536 + x2 * 256) (y := x3) (by omega) (by omega) (by omega) (by omega) (by omega)
  rw [a3]
  omega

theorem cell4_set {W : World} {b g k o0 o1 o2 o3 : Nat} {v0 v1 v2 v3 : Value} (hne : b ≠ g) (h : W.cell? ⟨b, o0, none⟩ = some v0 ∧ W.cell? ⟨b, o1, none⟩ = some v1 ∧ W.cell? ⟨b, o2, none⟩ = some v2 ∧ W.cell? ⟨b, o3, none⟩ = some v3) (u : Value) :
    (W.setCell ⟨g, k, none⟩ u).drew.cell? ⟨b, o0, none⟩ = some v0 ∧ (W.setCell ⟨g, k, none⟩ u).drew.cell? ⟨b, o1, none⟩ = some v1 ∧ (W.setCell ⟨g, k, none⟩ u).drew.cell? ⟨b, o2, none⟩ = some v2 ∧ (W.setCell ⟨g, k, none⟩ u).drew.cell? ⟨b, o3, none⟩ = some v3 := by
  have e : ∀ j, (W.setCell ⟨g, k, none⟩ u).drew.cell? ⟨b, j, none⟩ = W.cell? ⟨b, j, none⟩ := fun j => World.cell?_of_block (heap_setCell_other W ⟨g, k, none⟩ b u hne)
  rw [e, e, e, e]
  exact h

theorem Arr.setNe {W : World} {g : Nat} {t : TypeId} {cs : List Value} (h : Arr W g t cs) (k : Nat) (v : Value) {j : Nat} (hj : j ≠ k) {u : Value} (hc : W.cell? ⟨g, j, none⟩ = some u) : (W.setCell ⟨g, k, none⟩ v).cell? ⟨g, j, none⟩ = some u := by
  have hs := h.set k v
  rw [h.cell j] at hc
  rw [hs.cell j, List.getElem?_set_ne (Ne.symm hj)]
  exact hc

/-- Where the rounds' loop stands. -/
structure Bd (w W : World) (G : Nat) (hs ws st : List Int) : Prop where
  a2 : Arr W w.heap.size 133 (U32 hs)
  a4 : Arr W (w.heap.size + 1) 133 (U32 Z8)
  a5 : Arr W (w.heap.size + 1 + 1) 158 (U32 ws)
  a12 : Arr W G 133 (U32 st)
  fr : Below w.heap.size w W
  ge : w.heap.size + 1 + 1 < G

theorem Bd.go {w W W' : World} {G : Nat} {hs ws st : List Int} (h : Bd w W G hs ws st) (hb : Below W.heap.size W W') : Bd w W' G hs ws st :=
  ⟨h.a2.kept hb, h.a4.kept hb, h.a5.kept hb, h.a12.kept hb, h.fr.trans (hb.mono h.fr.size), h.ge⟩
theorem Bd.cells {w W : World} {G : Nat} {hs ws : List Int} {a0 a1 a2 a3 a4 a5 a6 a7 : Int} (h : Bd w W G hs ws [a0, a1, a2, a3, a4, a5, a6, a7]) (k : Nat) (hk : k < ws.length) :
    W.cell? ⟨G, 0, none⟩ = some (.int .u32 a0) ∧ W.cell? ⟨G, 1, none⟩ = some (.int .u32 a1) ∧ W.cell? ⟨G, 2, none⟩ = some (.int .u32 a2) ∧ W.cell? ⟨G, 3, none⟩ = some (.int .u32 a3) ∧ W.cell? ⟨G, 4, none⟩ = some (.int .u32 a4) ∧
      W.cell? ⟨G, 5, none⟩ = some (.int .u32 a5) ∧ W.cell? ⟨G, 6, none⟩ = some (.int .u32 a6) ∧ W.cell? ⟨G, 7, none⟩ = some (.int .u32 a7) ∧ W.cell? ⟨w.heap.size + 1 + 1, k, none⟩ = some (.int .u32 (ws.getD k 0)) :=
  ⟨h.a12.u32 0 (by simp), h.a12.u32 1 (by simp), h.a12.u32 2 (by simp), h.a12.u32 3 (by simp), h.a12.u32 4 (by simp), h.a12.u32 5 (by simp), h.a12.u32 6 (by simp), h.a12.u32 7 (by simp), h.a5.u32 k hk⟩
theorem Bd.set8 {w W : World} {G : Nat} {hs ws : List Int} {a0 a1 a2 a3 a4 a5 a6 a7 : Int} (h : Bd w W G hs ws [a0, a1, a2, a3, a4, a5, a6, a7]) (l0 l1 l2 l3 l4 l5 l6 l7 : Int) :
    Bd w ((((((((W.setCell ⟨G, 0, none⟩ (.int .u32 l0)).setCell ⟨G, 1, none⟩ (.int .u32 l1)).setCell ⟨G, 2, none⟩ (.int .u32 l2)).setCell ⟨G, 3, none⟩ (.int .u32 l3)).setCell ⟨G, 4, none⟩ (.int .u32 l4)).setCell ⟨G, 5, none⟩ (.int .u32 l5)).setCell ⟨G, 6, none⟩ (.int .u32 l6)).setCell ⟨G, 7, none⟩ (.int .u32 l7)) G hs ws [l0, l1, l2, l3, l4, l5, l6, l7] := by
  have hg := h.ge
  have oth : ∀ {g : Nat} {t : TypeId} {cs : List Value}, Arr W g t cs → g ≠ G → Arr ((((((((W.setCell ⟨G, 0, none⟩ (.int .u32 l0)).setCell ⟨G, 1, none⟩ (.int .u32 l1)).setCell ⟨G, 2, none⟩ (.int .u32 l2)).setCell ⟨G, 3, none⟩ (.int .u32 l3)).setCell ⟨G, 4, none⟩ (.int .u32 l4)).setCell ⟨G, 5, none⟩ (.int .u32 l5)).setCell ⟨G, 6, none⟩ (.int .u32 l6)).setCell ⟨G, 7, none⟩ (.int .u32 l7)) g t cs :=
    fun ha hne => (((((((ha.other _ _ hne).other _ _ hne).other _ _ hne).other _ _ hne).other _ _ hne).other _ _ hne).other _ _ hne).other _ _ hne
  exact ⟨oth h.a2 (by omega), oth h.a4 (by omega), oth h.a5 (by omega), h.a12.set8 l0 l1 l2 l3 l4 l5 l6 l7, set8_below h.fr (by omega) _ _ _ _ _ _ _ _, h.ge⟩
theorem Bd.two {w W : World} {G : Nat} {hs ws : List Int} {a0 a1 a2 a3 a4 a5 a6 a7 x : Int} (h : Bd w W G hs ws [a0, a1, a2, a3, a4, a5, a6, a7]) {k : Nat} (hk : k < ws.length) (hx : x = ws.getD k 0) :
    W.cell? ⟨G, 7, none⟩ = some (.int .u32 a7) ∧ W.cell? ⟨w.heap.size + 1 + 1, k, none⟩ = some (.int .u32 x) := by
  subst hx
  exact ⟨h.a12.u32 7 (by simp), h.a5.u32 k hk⟩

theorem wv4 (xs : List Int) (k : Nat) : wv xs k 4 = ((xs.getD (4 * k) 0 * 256 + xs.getD (4 * k + 1) 0) * 256 + xs.getD (4 * k + 2) 0) * 256 + xs.getD (4 * k + 3) 0 := by
  simp [wv]

set_option maxRecDepth 100000 in
set_option maxHeartbeats 8000000 in
theorem specBlock (hs : List Int) (a : Option Addr) (c : Nat) (xs : List Int) (w : World) (hl : hs.length = 8) (hx : Bs w a 64 c xs) :
    Calls Tryd.prog 137 #[.agg (U32 hs).toArray, .slice a 64 c] w fun e w' => e = .returned (.agg (U32 (blk hs xs)).toArray) ∧ Below w.heap.size w w' := by
  obtain ⟨_, hxl, hc, hby, hx⟩ := hx
  rcases hx with hx | ⟨b, o, rfl, hbs, hcell⟩
  · omega
  obtain ⟨l0, l1, l2, l3, l4, l5, l6, l7, hhs⟩ := list8 hl
  obtain ⟨W, hW⟩ : ∃ W, W = ((w.alloc (.cells (U32 hs).toArray 133)).alloc (.cells (U32 Z8).toArray 133)).alloc (.cells (U32 Z64).toArray 158) := ⟨_, rfl⟩
  have hB : Below w.heap.size w W := by rw [hW]; exact (((Below.refl _ _).alloc (Nat.le_refl _) _).alloc (by simp) _).alloc (by simp; omega) _
  have hA2 : Arr W w.heap.size 133 (U32 hs) := by rw [hW]; exact ((Arr.new w _ _).alloc _).alloc _
  have hA4 : Arr W (w.heap.size + 1) 133 (U32 Z8) := by
    rw [hW]
    have := (Arr.new (w.alloc (.cells (U32 hs).toArray 133)) (U32 Z8) 133).alloc (.cells (U32 Z64).toArray 158)
    rw [show (w.alloc (.cells (U32 hs).toArray 133)).heap.size = w.heap.size + 1 by simp] at this
    exact this
  have hA5 : Arr W (w.heap.size + 1 + 1) 158 (U32 (schedL xs 0 ++ List.replicate (64 - 0) 0)) := by
    rw [hW]
    have := Arr.new ((w.alloc (.cells (U32 hs).toArray 133)).alloc (.cells (U32 Z8).toArray 133)) (U32 Z64) 158
    rw [show ((w.alloc (.cells (U32 hs).toArray 133)).alloc (.cells (U32 Z8).toArray 133)).heap.size = w.heap.size + 1 + 1 by simp] at this
    exact this
  rw [hhs] at hW
  go_enter Tryd.func137, Tryd.ntmps137
  rw [show (Value.agg (U32 hs).toArray) = Value.agg #[.int .u32 l0, .int .u32 l1, .int .u32 l2, .int .u32 l3, .int .u32 l4, .int .u32 l5, .int .u32 l6, .int .u32 l7] by rw [hhs]; rfl]
  have HHS : Hid _ := hhs
  clear hhs
  go_wp2
  go_loopw [6] (fun i wr => ∃ k : Nat, k ≤ 16 ∧ i = .int .i64 k ∧ Arr wr w.heap.size 133 (U32 hs) ∧ Arr wr (w.heap.size + 1) 133 (U32 Z8) ∧ Arr wr (w.heap.size + 1 + 1) 158 (U32 (schedL xs k ++ List.replicate (64 - k) 0)) ∧ Below w.heap.size w wr) (fun i _ => 16 - (intOf i).toNat)
  case atStart => exact ⟨0, by omega, rfl, hW ▸ hA2, hW ▸ hA4, hW ▸ hA5, hW ▸ hB⟩
  case round =>
    clear hA2 hA4 hA5 hB hW
    obtain ⟨k, hk, rfl, h2, h4, h5, hb⟩ := hrel
    by_cases hlt : k < 16
    · obtain ⟨x0, e0⟩ : ∃ x, x = xs.getD (4 * k) 0 := ⟨_, rfl⟩
      obtain ⟨x1, e1⟩ : ∃ x, x = xs.getD (4 * k + 1) 0 := ⟨_, rfl⟩
      obtain ⟨x2, e2⟩ : ∃ x, x = xs.getD (4 * k + 2) 0 := ⟨_, rfl⟩
      obtain ⟨x3, e3⟩ : ∃ x, x = xs.getD (4 * k + 3) 0 := ⟨_, rfl⟩
      have hnx : nextW xs (schedL xs k) = ((x0 * 256 + x1) * 256 + x2) * 256 + x3 := by
        unfold nextW; rw [schedL_len, if_pos hlt, wv4, e0, e1, e2, e3]
      obtain ⟨hx0, gx0⟩ : 0 ≤ x0 ∧ x0 < 256 := by rw [e0]; exact get_byte hby (by omega)
      obtain ⟨hx1, gx1⟩ : 0 ≤ x1 ∧ x1 < 256 := by rw [e1]; exact get_byte hby (by omega)
      obtain ⟨hx2, gx2⟩ : 0 ≤ x2 ∧ x2 < 256 := by rw [e2]; exact get_byte hby (by omega)
      obtain ⟨hx3, gx3⟩ : 0 ≤ x3 ∧ x3 < 256 := by rw [e3]; exact get_byte hby (by omega)
      have c0 : wr.cell? ⟨b, o + 4 * k, none⟩ = some (.int .u8 x0) := by rw [e0]; exact (hb.cell (p := ⟨b, o + 4 * k, none⟩) hbs).trans (hcell _ (by omega))
      have c1 : wr.cell? ⟨b, o + (4 * k + 1), none⟩ = some (.int .u8 x1) := by rw [e1]; exact (hb.cell (p := ⟨b, o + (4 * k + 1), none⟩) hbs).trans (hcell _ (by omega))
      have c2 : wr.cell? ⟨b, o + (4 * k + 2), none⟩ = some (.int .u8 x2) := by rw [e2]; exact (hb.cell (p := ⟨b, o + (4 * k + 2), none⟩) hbs).trans (hcell _ (by omega))
      have c3 : wr.cell? ⟨b, o + (4 * k + 3), none⟩ = some (.int .u8 x3) := by rw [e3]; exact (hb.cell (p := ⟨b, o + (4 * k + 3), none⟩) hbs).trans (hcell _ (by omega))
      have HN : Hid _ := hnx
      clear hnx e0 e1 e2 e3 hcell hby
      have hsz := h5.lt
      have hkk := h5.u32 k (by simp [schedL_len]; omega)
      have hfz := h5.frozen k
      obtain ⟨uk, huk⟩ : ∃ uk, uk = (schedL xs k ++ List.replicate (64 - k) 0).getD k 0 := ⟨_, rfl⟩
      rw [← huk] at hkk
      clear huk
      have r0 : IntKind.i64.wrap (4 * (k : Int)) = 4 * (k : Int) := by rw [IntKind.wrap_i64]; omega
      have r1 : IntKind.i64.wrap (4 * (k : Int) + 1) = 4 * (k : Int) + 1 := by rw [IntKind.wrap_i64]; omega
      have r2 : IntKind.i64.wrap (4 * (k : Int) + 2) = 4 * (k : Int) + 2 := by rw [IntKind.wrap_i64]; omega
      have r3 : IntKind.i64.wrap (4 * (k : Int) + 3) = 4 * (k : Int) + 3 := by rw [IntKind.wrap_i64]; omega
      have q0 : 4 * (k : Int) < 64 := by omega
      have q1 : 4 * (k : Int) + 1 < 64 := by omega
      have q2 : 4 * (k : Int) + 2 < 64 := by omega
      have q3 : 4 * (k : Int) + 3 < 64 := by omega
      have p0 : (0 : Int) ≤ 4 * (k : Int) := by omega
      have p1 : (0 : Int) ≤ 4 * (k : Int) + 1 := by omega
      have p2 : (0 : Int) ≤ 4 * (k : Int) + 2 := by omega
      have p3 : (0 : Int) ≤ 4 * (k : Int) + 3 := by omega
      have i0 : (4 * (k : Int)).toNat = 4 * k := by omega
      have i1 : (4 * (k : Int) + 1).toNat = 4 * k + 1 := by omega
      have i2 : (4 * (k : Int) + 2).toNat = 4 * k + 2 := by omega
      have i3 : (4 * (k : Int) + 3).toNat = 4 * k + 3 := by omega
      have pk : (0 : Int) ≤ (k : Int) := by omega
      have qk : (k : Int) < 64 := by omega
      have v0 : IntKind.u32.wrap x0 = x0 := by rw [IntKind.wrap_u32]; omega
      have v1 : IntKind.u32.wrap x1 = x1 := by rw [IntKind.wrap_u32]; omega
      have v2 : IntKind.u32.wrap x2 = x2 := by rw [IntKind.wrap_u32]; omega
      have v3 : IntKind.u32.wrap x3 = x3 := by rw [IntKind.wrap_u32]; omega
      have s0 : IntKind.u32.wrap (x0 * 16777216) = x0 * 16777216 := by rw [IntKind.wrap_u32]; omega
      have s1 : IntKind.u32.wrap (x1 * 65536) = x1 * 65536 := by rw [IntKind.wrap_u32]; omega
      have s2 : IntKind.u32.wrap (x2 * 256) = x2 * 256 := by rw [IntKind.wrap_u32]; omega
      have hor := or4 hx0 gx0 hx1 gx1 hx2 gx2 hx3 gx3
      have hne : b ≠ w.heap.size + 1 + 1 := by omega
      go_wp2
      go_region_held3 (fun W => W.cell? ⟨b, o + 4 * k, none⟩ = some (.int .u8 x0) ∧ W.cell? ⟨b, o + (4 * k + 1), none⟩ = some (.int .u8 x1) ∧ W.cell? ⟨b, o + (4 * k + 2), none⟩ = some (.int .u8 x2) ∧ W.cell? ⟨b, o + (4 * k + 3), none⟩ = some (.int .u8 x3)) (first | exact ⟨c0, c1, c2, c3⟩ | exact cell4_set hne ⟨c0, c1, c2, c3⟩ _) (fail)
      obtain ⟨z, hz⟩ : ∃ z, z = ((x0 * 256 + x1) * 256 + x2) * 256 + x3 := ⟨_, rfl⟩
      rw [← hz]
      have h5' := h5.set k (.int .u32 z)
      rw [set_sched xs k (by omega) z (by rw [HN.out, hz])] at h5'
      have H5 : Hid (Arr (wr.setCell ⟨w.heap.size + 1 + 1, k, none⟩ (.int .u32 z)).drew _ _ _) := h5'
      have H2 : Hid (Arr (wr.setCell ⟨w.heap.size + 1 + 1, k, none⟩ (.int .u32 z)).drew _ _ _) := h2.other ⟨w.heap.size + 1 + 1, k, none⟩ (.int .u32 z) (by simp; omega)
      have H4 : Hid (Arr (wr.setCell ⟨w.heap.size + 1 + 1, k, none⟩ (.int .u32 z)).drew _ _ _) := h4.other ⟨w.heap.size + 1 + 1, k, none⟩ (.int .u32 z) (by simp)
      have HB := (hb.setCell (p := ⟨w.heap.size + 1 + 1, k, none⟩) (by simp; omega) (.int .u32 z)).drew
      clear h5' h2 h4 h5 hb hz hor HN c0 c1 c2 c3 hkk hfz
      go_wp2
      go_roundw
      case rel => exact ⟨k + 1, by omega, by go_num, H2.out, H4.out, H5.out, HB⟩
      case measure => simp [intOf]; omega
    · have hkn : k = 16 := by omega
      subst hkn
      clear hcell hby hbs
      have hsz0 := h5.lt
      go_wp2
      go_loopw [7] (fun i wr => ∃ k : Nat, 16 ≤ k ∧ k ≤ 64 ∧ i = .int .i64 k ∧ Arr wr w.heap.size 133 (U32 hs) ∧ Arr wr (w.heap.size + 1) 133 (U32 Z8) ∧ Arr wr (w.heap.size + 1 + 1) 158 (U32 (schedL xs k ++ List.replicate (64 - k) 0)) ∧ Below w.heap.size w wr) (fun i _ => 64 - (intOf i).toNat)
      case atStart => exact ⟨16, by omega, by omega, rfl, h2, h4, h5, hb⟩
      case round =>
        clear h2 h4 h5 hb
        obtain ⟨k, h16, hk, rfl, h2, h4, h5, hb⟩ := hrel
        by_cases hlt : k < 64
        · obtain ⟨y2, e2⟩ : ∃ y, y = (schedL xs k).getD (k - 2) 0 := ⟨_, rfl⟩
          obtain ⟨y7, e7⟩ : ∃ y, y = (schedL xs k).getD (k - 7) 0 := ⟨_, rfl⟩
          obtain ⟨y15, e15⟩ : ∃ y, y = (schedL xs k).getD (k - 15) 0 := ⟨_, rfl⟩
          obtain ⟨y16, e16⟩ : ∃ y, y = (schedL xs k).getD (k - 16) 0 := ⟨_, rfl⟩
          have hget : ∀ j, j < k → wr.cell? ⟨w.heap.size + 1 + 1, j, none⟩ = some (.int .u32 ((schedL xs k).getD j 0)) := by
            intro j hj
            rw [← sched_get xs k j (64 - k) hj]
            exact h5.u32 j (by simp [schedL_len]; omega)
          have c2 := hget (k - 2) (by omega)
          have c7 := hget (k - 7) (by omega)
          have c15 := hget (k - 15) (by omega)
          have c16 := hget (k - 16) (by omega)
          rw [← e2] at c2
          rw [← e7] at c7
          rw [← e15] at c15
          rw [← e16] at c16
          have hv := nextW_high xs k h16
          rw [← e2, ← e7, ← e15, ← e16] at hv
          have HV : Hid _ := hv
          clear e2 e7 e15 e16 hv hget
          have i2 : ((k : Int) - 2).toNat = k - 2 := by omega
          have p2 : (2 : Int) ≤ (k : Int) := by omega
          have q2 : (k : Int) - 2 < 64 := by omega
          have r2 : IntKind.i64.wrap ((k : Int) - 2) = (k : Int) - 2 := by rw [IntKind.wrap_i64]; omega
          have i7 : ((k : Int) - 7).toNat = k - 7 := by omega
          have p7 : (7 : Int) ≤ (k : Int) := by omega
          have q7 : (k : Int) - 7 < 64 := by omega
          have r7 : IntKind.i64.wrap ((k : Int) - 7) = (k : Int) - 7 := by rw [IntKind.wrap_i64]; omega
          have i15 : ((k : Int) - 15).toNat = k - 15 := by omega
          have p15 : (15 : Int) ≤ (k : Int) := by omega
          have q15 : (k : Int) - 15 < 64 := by omega
          have r15 : IntKind.i64.wrap ((k : Int) - 15) = (k : Int) - 15 := by rw [IntKind.wrap_i64]; omega
          have i16 : ((k : Int) - 16).toNat = k - 16 := by omega
          have p16 : (16 : Int) ≤ (k : Int) := by omega
          have q16 : (k : Int) - 16 < 64 := by omega
          have r16 : IntKind.i64.wrap ((k : Int) - 16) = (k : Int) - 16 := by rw [IntKind.wrap_i64]; omega
          have pk : (0 : Int) ≤ (k : Int) := by omega
          have qk : (k : Int) < 64 := by omega
          have hkk := h5.u32 k (by simp [schedL_len]; omega)
          have hfz := h5.frozen k
          obtain ⟨uk, huk⟩ : ∃ uk, uk = (schedL xs k ++ List.replicate (64 - k) 0).getD k 0 := ⟨_, rfl⟩
          rw [← huk] at hkk
          clear huk
          go_wp2
          go_quiet (fail)
          go_wp2_with fail
          refine (specTurn y15 7 (by omega) (by omega) _ rfl _).mono ?_
          rintro e w1 ⟨rfl, t1, rfl⟩
          go_wp2_with fail
          refine (specTurn y15 18 (by omega) (by omega) _ rfl _).mono ?_
          rintro e w1 ⟨rfl, t2, rfl⟩
          go_wp2_with fail
          refine (specTurn y2 17 (by omega) (by omega) _ rfl _).mono ?_
          rintro e w1 ⟨rfl, t3, rfl⟩
          go_wp2_with fail
          refine (specTurn y2 19 (by omega) (by omega) _ rfl _).mono ?_
          rintro e w1 ⟨rfl, t4, rfl⟩
          go_wp2
          have eA : bits .xor .u32 (bits .xor .u32 (rot y15 7) (rot y15 18)) (y15 / 8) = sS0 y15 := rfl
          have eB : bits .xor .u32 (bits .xor .u32 (rot y2 17) (rot y2 19)) (y2 / 1024) = sS1 y2 := rfl
          rw [eA, eB]
          clear eA eB
          obtain ⟨A, hA⟩ : ∃ A, A = sS0 y15 := ⟨_, rfl⟩
          obtain ⟨B, hB⟩ : ∃ B, B = sS1 y2 := ⟨_, rfl⟩
          rw [← hA, ← hB]
          have HAB : Hid (nextW xs (schedL xs k) = (y16 + A + y7 + B) % 4294967296) := by unfold Hid; rw [HV.out, hA, hB]
          clear hA hB HV
          have hk2 : k - 16 ≠ k := by omega
          have hk3 : k - 7 ≠ k := by omega
          go_region_held3 (fun W => W.cell? ⟨w.heap.size + 1 + 1, k - 16, none⟩ = some (.int .u32 y16) ∧ W.cell? ⟨w.heap.size + 1 + 1, k - 7, none⟩ = some (.int .u32 y7)) (first | exact ⟨c16, c7⟩ | exact ⟨Arr.setNe (h5.drewN _) _ _ hk2 c16, Arr.setNe (h5.drewN _) _ _ hk3 c7⟩) (fail)
          have hz : IntKind.u32.wrap (IntKind.u32.wrap (IntKind.u32.wrap (y16 + A) + y7) + B) = nextW xs (schedL xs k) := by
            rw [HAB.out]; simp only [IntKind.wrap_u32]; omega
          generalize IntKind.u32.wrap (IntKind.u32.wrap (IntKind.u32.wrap (y16 + A) + y7) + B) = z at hz ⊢
          have h5' := (h5.drewN (nq + t1 + t2 + t3 + t4 + 1)).set k (.int .u32 z)
          rw [set_sched xs k hlt z hz] at h5'
          have h2' := (h2.drewN (nq + t1 + t2 + t3 + t4 + 1)).other ⟨w.heap.size + 1 + 1, k, none⟩ (.int .u32 z) (by simp; omega)
          have h4' := (h4.drewN (nq + t1 + t2 + t3 + t4 + 1)).other ⟨w.heap.size + 1 + 1, k, none⟩ (.int .u32 z) (by simp)
          have hb' := (bel_dN hb (nq + t1 + t2 + t3 + t4 + 1)).setCell (p := ⟨w.heap.size + 1 + 1, k, none⟩) (by simp; omega) (.int .u32 z)
          clear h5 h2 h4 hb hz HAB c2 c7 c15 c16 hkk hfz
          go_wp2
          refine ⟨⟨_, _, _, _, _, _, _, _, _, _, _, _, _, _, _, _, _, _, _, _, _, _, _, _, _, _, _, _, _, _, _, _, _, _, _, _, _, _, _, _, _, _, _, _, _, _, _, _, ⟨k + 1, by omega, by omega, by go_num, h2', h4', h5', hb'⟩, rfl⟩, ?_⟩
          simp [intOf]
          omega
        · have hkn : k = 64 := by omega
          subst hkn
          have e : schedL xs 64 ++ List.replicate (64 - 64) 0 = schedL xs 64 := by simp
          rw [e] at h5
          obtain ⟨ws, hws⟩ : ∃ ws, ws = schedL xs 64 := ⟨_, rfl⟩
          have hwl : ws.length = 64 := by rw [hws]; exact schedL_len xs 64
          rw [← hws] at h5
          have HK : Hid (blk hs xs = zl hs (rnds ws KS hs 64) 8) := by
            unfold Hid zl blk
            rw [← hws]
            have : (List.zipWith (fun x y => (x + y) % 4294967296) hs (rnds ws KS hs 64)).length = 8 := by simp [rnds_len _ _ hl, hl]
            rw [List.take_of_length_le (by omega)]
            simp [hl]
          clear e hws
          have hhs := HHS.out
          have h2l := h2
          rw [hhs] at h2l
          have c0 := h2l.u32 0 (by simp)
          have c1 := h2l.u32 1 (by simp)
          have c2 := h2l.u32 2 (by simp)
          have c3 := h2l.u32 3 (by simp)
          have c4 := h2l.u32 4 (by simp)
          have c5 := h2l.u32 5 (by simp)
          have c6 := h2l.u32 6 (by simp)
          have c7 := h2l.u32 7 (by simp)
          simp at c0 c1 c2 c3 c4 c5 c6 c7
          have hG := h5.lt
          have BD0 : Bd w (wr.alloc (.cells (U32 [l0, l1, l2, l3, l4, l5, l6, l7]).toArray 133)) wr.heap.size hs ws (rnds ws KS hs 0) :=
            ⟨h2.alloc _, h4.alloc _, h5.alloc _, by rw [show rnds ws KS hs 0 = [l0, l1, l2, l3, l4, l5, l6, l7] from hhs]; exact Arr.new _ _ _, hb.alloc hb.size _, hG⟩
          clear hhs h2l h2 h4 h5 hb hG
          go_wp2
          clear c0 c1 c2 c3 c4 c5 c6 c7
          obtain ⟨G, hGe⟩ : ∃ G, G = wr.heap.size := ⟨_, rfl⟩
          rw [← hGe] at BD0 ⊢
          clear hGe
          go_loopw [13] (fun i wr' => ∃ k : Nat, k ≤ 64 ∧ i = .int .i64 k ∧ Bd w wr' G hs ws (rnds ws KS hs k)) (fun i _ => 64 - (intOf i).toNat)
          case atStart => exact ⟨0, by omega, rfl, BD0⟩
          case round =>
            clear BD0
            obtain ⟨k, hk, rfl, BD⟩ := hrel
            by_cases hlt : k < 64
            · obtain ⟨x, hxx⟩ : ∃ x, x = ws.getD k 0 := ⟨_, rfl⟩
              obtain ⟨y, hyy⟩ : ∃ y, y = KS.getD k 0 := ⟨_, rfl⟩
              have hr : rnds ws KS hs (k + 1) = stp (rnds ws KS hs k) (x + y) := by rw [hxx, hyy]; rfl
              have h8 := rnds_len ws KS hl k
              obtain ⟨a0, a1, a2, a3, a4, a5, a6, a7, h8e⟩ := list8 h8
              have hr' : rnds ws KS hs (k + 1) = stp8 a0 a1 a2 a3 a4 a5 a6 a7 (x + y) := by rw [hr, h8e]; rfl
              rw [h8e] at BD
              have HR : Hid _ := hr'
              have HX : Hid _ := hxx
              have HYY : Hid _ := hyy
              clear hr hr' h8 h8e hxx hyy
              obtain ⟨d0, d1, d2, d3, d4, d5, d6, d7, dx⟩ := BD.cells k (by omega)
              rw [← HX.out] at dx
              have hk0 : (0 : Int) ≤ (k : Int) := by omega
              have hk64 : (k : Int) < 64 := by omega
              have hsg : IntKind.u32.signed = false := rfl
              go_wp2
              go_quiet (first | (go_at_call_of 145 (Value.int IntKind.i64 25); refine Calls.quiet_of (specTurn a4 25 (by omega) (by omega) _ rfl _)) | (go_at_call_of 145 (Value.int IntKind.i64 11); refine Calls.quiet_of (specTurn a4 11 (by omega) (by omega) _ rfl _)) | (go_at_call_of 145 (Value.int IntKind.i64 6); refine Calls.quiet_of (specTurn a4 6 (by omega) (by omega) _ rfl _)))
              have eS : bits .xor .u32 (bits .xor .u32 (rot a4 6) (rot a4 11)) (rot a4 25) = bS1 a4 := rfl
              rw [eS]
              go_wp2
              have eC : bits .xor .u32 (bits .and .u32 a4 a5) (bits .and .u32 (bits .xor .u32 IntKind.u32.max a4) a6) = cho a4 a5 a6 := rfl
              rw [eC]
              clear eS eC
              have hkw : k < ws.length := by omega
              have BDr : Bd w (wr.drewN nq).drew G hs ws [a0, a1, a2, a3, a4, a5, a6, a7] := BD.go (bel_drewN wr (nq + 1))
              clear BD d0 d1 d2 d3 d4 d5 d6 d7 dx
              go_region_held3 (fun W => W.cell? ⟨G, 7, none⟩ = some (.int .u32 a7) ∧ W.cell? ⟨w.heap.size + 1 + 1, k, none⟩ = some (.int .u32 x)) (exact BDr.two hkw HX.out)
                ((go_at_call 146; refine (specRound k hlt _).mono ?_; rintro e w2 ⟨rfl, hb2⟩; rw [← HYY.out]; replace BDr := BDr.go hb2))
              obtain ⟨T, hT⟩ : ∃ T, T = IntKind.u32.wrap (IntKind.u32.wrap (IntKind.u32.wrap (IntKind.u32.wrap (a7 + bS1 a4) + cho a4 a5 a6) + y) + x) := ⟨_, rfl⟩
              rw [← hT]
              have HT : Hid _ := hT
              clear hT
              obtain ⟨d0, d1, d2, d3, d4, d5, d6, d7, dx⟩ := BDr.cells k hkw
              clear dx
              go_wp2
              go_quiet (first | (go_at_call_of 145 (Value.int IntKind.i64 22); refine Calls.quiet_of (specTurn a0 22 (by omega) (by omega) _ rfl _)) | (go_at_call_of 145 (Value.int IntKind.i64 13); refine Calls.quiet_of (specTurn a0 13 (by omega) (by omega) _ rfl _)) | (go_at_call_of 145 (Value.int IntKind.i64 2); refine Calls.quiet_of (specTurn a0 2 (by omega) (by omega) _ rfl _)))
              have eS : bits .xor .u32 (bits .xor .u32 (rot a0 2) (rot a0 13)) (rot a0 22) = bS0 a0 := rfl
              rw [eS]
              clear eS
              have f0 := BDr.a12.frozen
              go_wp2
              have hst : stp8 a0 a1 a2 a3 a4 a5 a6 a7 (x + y) = [(T + bS0 a0 + maj a0 a1 a2) % 4294967296, a0, a1, a2, (a3 + T) % 4294967296, a4, a5, a6] := by
                have hT := HT.out
                simp only [IntKind.wrap_u32] at hT
                unfold stp8
                rw [show (a7 + bS1 a4 + cho a4 a5 a6 + (x + y) + (bS0 a0 + maj a0 a1 a2)) % 4294967296 = (T + bS0 a0 + maj a0 a1 a2) % 4294967296 by omega, show (a3 + (a7 + bS1 a4 + cho a4 a5 a6 + (x + y))) % 4294967296 = (a3 + T) % 4294967296 by omega]
              have BD2 := (BDr.go (bel_drewN w2 nq)).set8 ((T + bS0 a0 + maj a0 a1 a2) % 4294967296) a0 a1 a2 ((a3 + T) % 4294967296) a4 a5 a6
              rw [← hst, ← HR.out] at BD2
              clear hst HT HR
              refine ⟨⟨_, _, _, _, _, _, _, _, _, _, _, _, _, _, _, _, _, _, _, _, _, _, _, _, _, _, _, _, _, _, _, _, _, _, _, _, _, _, _, _, _, _, _, _, _, _, _, _, _, _, _, _, _, _, _, _, _, _, _, _, _, _, _, _, _, _, _, _, _, _, _, _, _, _, _, _, _, _, _, _, _, _, _, _, _, _, _, _, _, _, _, _, _, _, _, _, ⟨k + 1, by omega, by go_num, BD2⟩, rfl⟩, ?_⟩
              simp [intOf]
              omega
            · have hkn : k = 64 := by omega
              subst hkn
              have hst := rnds_len ws KS hl 64
              obtain ⟨st, hste⟩ : ∃ st, st = rnds ws KS hs 64 := ⟨_, rfl⟩
              rw [← hste] at hst BD
              have HK2 : Hid (blk hs xs = zl hs st 8) := by unfold Hid; rw [HK.out, hste]
              clear hste HK
              have h2 : Arr wr w.heap.size 133 (U32 (zl hs st 0)) := by
                have : zl hs st 0 = hs := by simp [zl]
                rw [this]; exact BD.a2
              have h4 := BD.a4
              have h12 := BD.a12
              have hb := BD.fr
              have hge := BD.ge
              clear BD
              go_wp2
              go_loopw [19] (fun i wr' => ∃ k : Nat, k ≤ 8 ∧ i = .int .i64 k ∧ Arr wr' w.heap.size 133 (U32 (zl hs st k)) ∧ Arr wr' (w.heap.size + 1) 133 (U32 Z8) ∧ Arr wr' G 133 (U32 st) ∧ Below w.heap.size w wr') (fun i _ => 8 - (intOf i).toNat)
              case atStart => exact ⟨0, by omega, rfl, h2, h4, h12, hb⟩
              case round =>
                clear h2 h4 h12 hb
                obtain ⟨k, hk, rfl, h2, h4, h12, hb⟩ := hrel
                by_cases hlt : k < 8
                · obtain ⟨x, hxx⟩ : ∃ x, x = st.getD k 0 := ⟨_, rfl⟩
                  obtain ⟨y, hyy⟩ : ∃ y, y = hs.getD k 0 := ⟨_, rfl⟩
                  have hcx := h12.u32 k (by omega)
                  rw [← hxx] at hcx
                  have hck := h2.u32 k (by rw [zl_len hs st hl hst k hk]; omega)
                  rw [zl_get hs st hl hst k hlt, ← hyy] at hck
                  have hfz := h2.frozen k
                  have h2' := h2.set k (.int .u32 ((y + x) % 4294967296))
                  rw [zl_set hs st hl hst k hlt _ (by rw [hxx, hyy])] at h2'
                  have H2 : Hid (Arr (wr.setCell ⟨w.heap.size, k, none⟩ (.int .u32 ((y + x) % 4294967296))).drew w.heap.size 133 (U32 (zl hs st (k + 1)))) := h2'
                  have H4 : Hid (Arr (wr.setCell ⟨w.heap.size, k, none⟩ (.int .u32 ((y + x) % 4294967296))).drew (w.heap.size + 1) 133 (U32 Z8)) := h4.other ⟨w.heap.size, k, none⟩ (.int .u32 ((y + x) % 4294967296)) (by simp)
                  have H12 : Hid (Arr (wr.setCell ⟨w.heap.size, k, none⟩ (.int .u32 ((y + x) % 4294967296))).drew G 133 (U32 st)) := h12.other ⟨w.heap.size, k, none⟩ (.int .u32 ((y + x) % 4294967296)) (by show G ≠ w.heap.size; omega)
                  have HB : Hid _ := (hb.setCell (p := ⟨w.heap.size, k, none⟩) (Nat.le_refl _) (.int .u32 ((y + x) % 4294967296))).drew
                  have hwr : IntKind.u32.wrap (y + x) = (y + x) % 4294967296 := IntKind.wrap_u32 _
                  clear h2' h2 h4 h12 hb hxx hyy
                  have hk8 : (k : Int) < 8 := by omega
                  have hk0 : (0 : Int) ≤ (k : Int) := by omega
                  go_wp2
                  go_region
                  go_wp2
                  go_roundw
                  case rel => exact ⟨k + 1, by omega, by go_num, H2.out, H4.out, H12.out, HB.out⟩
                  case measure => simp [intOf]; omega
                · have hkn : k = 8 := by omega
                  subst hkn
                  have hzl := zl_len hs st hl hst 8 (by omega)
                  obtain ⟨z, hze⟩ : ∃ z, z = zl hs st 8 := ⟨_, rfl⟩
                  rw [← hze] at h2 hzl
                  have HZ : Hid (blk hs xs = z) := by unfold Hid; rw [HK2.out, hze]
                  clear hze HK2 hst
                  have h4' := h4.row (U32 z)
                  have hb' := setRow_below hb (w.heap.size + 1) (U32 z).toArray (by omega)
                  have hsz : (Tryd.prog.info? 133).map (·.size) = some (U32 z).toArray.size := by simpa [hzl] using Tryd.infoW8
                  go_wp2_with (first
                    | (refine wpList_load_row rfl 133 _ rfl w.heap.size rfl 133 (U32 z).toArray (0, 0) _ h2 Tryd.underlying133 rfl hsz ?_)
                    | (refine wpList_store_row rfl 133 _ _ rfl (w.heap.size + 1) (U32 z).toArray rfl rfl 133 _ h4 hsz (by simp [hzl]) (by simp [Value.oneCell']) ?_))
                  exact bodyPost_ret (results_cell_row rfl _ _ (w.heap.size + 1) 133 (U32 z).toArray (0, 0) _ rfl h4' Tryd.underlying133 rfl hsz) rfl ⟨by rw [HZ.out], hb'⟩
end Go.Proofs.YtofflhhlacdgfaaDoor
namespace Go.Proofs.YtofflhhlacdgfaaDoor
set_option maxRecDepth 100000
open Go.RowKit

set_option maxHeartbeats 1000000 in
theorem specFrom (a : Option Addr) (c : Nat) (xs : List Int) (w : World) (h : Is w a 8 c xs) (hw : ∀ x ∈ xs, 0 ≤ x ∧ x < 4294967296) :
    Calls Tryd.prog 136 #[.slice a 8 c] w fun e w' => e = .returned (.agg (U32 xs).toArray) ∧ Below w.heap.size w w' := by
  obtain ⟨_, hl, hc, _, h⟩ := h
  rcases h with h | ⟨b, o, rfl, hbs, hcell⟩
  · omega
  obtain ⟨W, hW⟩ : ∃ W, W = (w.alloc (.cells (U32 Z8).toArray 133)).alloc (.cells (U32 Z8).toArray 133) := ⟨_, rfl⟩
  have hA0 : Arr W w.heap.size 133 (U32 Z8) := by rw [hW]; exact (Arr.new w _ _).alloc _
  have hA1 : Arr W (w.heap.size + 1) 133 (U32 (xs.take 0 ++ List.replicate (8 - 0) 0)) := by
    rw [hW]
    have := Arr.new (w.alloc (.cells (U32 Z8).toArray 133)) (U32 Z8) 133
    rw [show (w.alloc (.cells (U32 Z8).toArray 133)).heap.size = w.heap.size + 1 by simp] at this
    exact this
  have hB : Below w.heap.size w W := by rw [hW]; exact ((Below.refl _ _).alloc (Nat.le_refl _) _).alloc (by simp) _
  go_enter Tryd.func136, Tryd.ntmps136
  go_wp2
  go_loopw [4] (fun i wr => ∃ k : Nat, k ≤ 8 ∧ i = .int .i64 k ∧ Arr wr w.heap.size 133 (U32 Z8) ∧ Arr wr (w.heap.size + 1) 133 (U32 (xs.take k ++ List.replicate (8 - k) 0)) ∧ Below w.heap.size w wr) (fun i _ => 8 - (intOf i).toNat)
  case atStart => exact ⟨0, by omega, rfl, hW ▸ hA0, hW ▸ hA1, hW ▸ hB⟩
  case round =>
    clear hA0 hA1 hB hW
    obtain ⟨k, hk, rfl, h0, h1, hb⟩ := hrel
    by_cases hlt : k < 8
    · obtain ⟨x, hx⟩ : ∃ x, x = xs.getD k 0 := ⟨_, rfl⟩
      have hck : wr.cell? ⟨b, o + k, none⟩ = some (.int .i64 x) := by rw [hx]; exact (hb.cell (p := ⟨b, o + k, none⟩) hbs).trans (hcell k hlt)
      obtain ⟨hx0, hx1⟩ : 0 ≤ x ∧ x < 4294967296 := by rw [hx]; exact hw _ (getD_mem (by omega))
      have hcv : IntKind.u32.wrap x = x := by rw [IntKind.wrap_u32]; omega
      have hfz := h1.frozen k
      obtain ⟨u, hu⟩ : ∃ u, wr.cell? ⟨w.heap.size + 1, k, none⟩ = some u := by
        rw [h1.cell k]
        exact ⟨_, List.getElem?_eq_getElem (by simp; omega)⟩
      have h1' := h1.set k (.int .u32 x)
      rw [set_fill xs 8 k x (by omega) hl hx] at h1'
      have h0' := h0.other ⟨w.heap.size + 1, k, none⟩ (.int .u32 x) (by simp)
      have hb' := hb.setCell (p := ⟨w.heap.size + 1, k, none⟩) (by simp) (.int .u32 x)
      have H1 : Hid _ := h1'
      have H0 : Hid _ := h0'
      have HB : Hid _ := hb'
      clear h1' h0' hb' h0 h1 hb hcell hx
      have hk8 : (k : Int) < 8 := by omega
      go_wp2
      go_roundw
      case rel => exact ⟨k + 1, by omega, by go_num, H0.out, H1.out, HB.out⟩
      case measure => simp [intOf]; omega
    · have hkn : k = 8 := by omega
      subst hkn
      have e : xs.take 8 ++ List.replicate (8 - 8) 0 = xs := by simp [List.take_of_length_le (show xs.length ≤ 8 by omega)]
      rw [e] at h1
      have h0' := h0.row (U32 xs)
      have hb' := setRow_below hb w.heap.size (U32 xs).toArray (Nat.le_refl _)
      have hsz : (Tryd.prog.info? 133).map (·.size) = some (U32 xs).toArray.size := by simpa [hl] using Tryd.infoW8
      clear e
      go_wp2_with (first
        | (refine wpList_load_row rfl 133 _ rfl (w.heap.size + 1) rfl 133 (U32 xs).toArray (0, 0) _ h1 Tryd.underlying133 rfl hsz ?_)
        | (refine wpList_store_row rfl 133 _ _ rfl w.heap.size (U32 xs).toArray rfl rfl 133 _ h0 hsz (by simp [hl]) (by simp [Value.oneCell']) ?_))
      exact bodyPost_ret (results_cell_row rfl _ _ w.heap.size 133 (U32 xs).toArray (0, 0) _ rfl h0' Tryd.underlying133 rfl hsz) rfl ⟨rfl, hb'⟩

theorem specFirst (w : World) : Calls Tryd.prog 139 #[] w fun e w' => e = .returned (.agg (U32 H0).toArray) ∧ Below w.heap.size w w' := by
  go_enter Tryd.func139, Tryd.ntmps139
  go_wp2
  refine bodyPost_ret (results_cell_row rfl _ _ w.heap.size 133 (U32 H0).toArray (0, 0) _ rfl (Arr.new w (U32 H0) 133) Tryd.underlying133 rfl Tryd.infoW8) rfl ⟨rfl, ?_⟩
  exact (Below.refl _ _).alloc (Nat.le_refl _) _

/-- What ShaBlock answers. -/
def sbOk (hs xs : List Int) : Bool := isW hs && decide (xs.length = 64)
def sbOf (hs xs : List Int) : List Int := if sbOk hs xs = true then blk hs xs else []
theorem sbOf_no {hs xs : List Int} (h : sbOk hs xs = false) : sbOf hs xs = [] := by unfold sbOf; rw [h]; rfl
theorem sbOf_yes {hs xs : List Int} (h : sbOk hs xs = true) : sbOf hs xs = blk hs xs := by unfold sbOf; rw [h]; rfl

end Go.Proofs.YtofflhhlacdgfaaDoor

/-
  What is proved here: the contracts of the specification's l5wide and ScWide: 64 bytes modulo the order.
-/
import Derived.Test.YtlafcjoccbinaaaDoorZS
import Derived.Test.YtlafcjoccbinaaaDoorZU
import Derived.Deep.AppendLies
namespace Go.Proofs.YtlafcjoccbinaaaDoor
open Go.RowKit
set_option maxRecDepth 100000

/-- The parts that 64 bytes make. -/
def wdL (bs : List Int) : List Int := (List.range 32).map fun i => bs.getD (2 * i) 0 + 256 * bs.getD (2 * i + 1) 0
theorem wdL_len (bs : List Int) : (wdL bs).length = 32 := by simp [wdL]
theorem wdL_get (bs : List Int) (k : Nat) (h : k < 32) : (wdL bs).getD k 0 = bs.getD (2 * k) 0 + 256 * bs.getD (2 * k + 1) 0 := by
  unfold wdL
  rw [List.getD, List.getElem?_map, List.getElem?_range h]
  rfl
theorem wdL_lm {bs : List Int} (h : ∀ x ∈ bs, 0 ≤ x ∧ x < 256) : Lm (wdL bs) := by
  intro x hx
  unfold wdL at hx
  obtain ⟨j, _, rfl⟩ := List.mem_map.1 hx
  have h1 := gD_u8 h (2 * j)
  have h2 := gD_u8 h (2 * j + 1)
  omega

set_option maxHeartbeats 2000000 in
theorem specWide16 (a : Option Addr) (c : Nat) (bs : List Int) (w : World) (hx : Bs w a 64 c bs) :
    Calls Tryd.prog 64 #[.slice a 64 c] w fun e w' => e = .returned (.agg (I64 (redO (val (wdL bs)))).toArray) ∧ Below w.heap.size w w' := by
  obtain ⟨i0, hi, hz0, hz1, hz2⟩ := info_parts Tryd.info3
  obtain ⟨_, hl, hc, hr, hx⟩ := hx
  rcases hx with hx | ⟨b, o, rfl, hbs, hcell⟩
  · omega
  have hRl := wdL_len bs
  have hRg := wdL_get bs
  have hRm := wdL_lm hr
  have hr' := gD_u8 hr
  obtain ⟨R, hR⟩ : ∃ R, R = wdL bs := ⟨_, rfl⟩
  rw [← hR] at hRl hRg hRm ⊢
  have HRG : Hid _ := hRg
  have HRR : Hid _ := hr'
  have HRM : Hid _ := hRm
  clear hR hRg hr hr' hRm
  obtain ⟨W, hW⟩ : ∃ W, W = w.alloc (.cells (I64 Z16).toArray 66) := ⟨_, rfl⟩
  have g0 : Arr W w.heap.size 66 (I64 Z16) := by rw [hW]; exact Arr.new w (I64 Z16) _
  have gB : Below w.heap.size w W := by rw [hW]; exact (Below.refl _ _).alloc (Nat.le_refl _) _
  have gs : w.heap.size + 1 ≤ W.heap.size := by rw [hW]; simp
  go_enter Tryd.func64, Tryd.ntmps64
  go_wp2
  go_loopw [3, 4] (fun v i wr => ∃ k : Nat, k ≤ 32 ∧ i = .int .i64 (2 * (k : Int)) ∧ wr.ownsRow (w.heap.size + 1) 3 1 v k (I64 (R.take k)) ∧ Arr wr w.heap.size 66 (I64 Z16) ∧ Below w.heap.size w wr ∧ w.heap.size + 1 ≤ wr.heap.size) (fun _ i _ => 64 - (intOf i).toNat)
  case atStart => exact ⟨0, by omega, rfl, by simpa using World.ownsRow_nil _ _ _ _, hW ▸ g0, hW ▸ gB, by simp⟩
  case round =>
    clear g0 gB gs hW
    obtain ⟨k, hk, rfl, hown, g0, gB, gs⟩ := hrel
    by_cases hlt : k < 32
    · obtain ⟨x, hx⟩ : ∃ x, x = bs.getD (2 * k) 0 := ⟨_, rfl⟩
      obtain ⟨y, hy⟩ : ∃ y, y = bs.getD (2 * k + 1) 0 := ⟨_, rfl⟩
      have hxb := HRR.out (2 * k)
      have hyb := HRR.out (2 * k + 1)
      rw [← hx] at hxb
      rw [← hy] at hyb
      obtain ⟨hx0, hx1⟩ := hxb
      obtain ⟨hy0, hy1⟩ := hyb
      have hck : wr.cell? ⟨b, o + 2 * k, none⟩ = some (.int .u8 x) := by rw [hx]; exact (gB.cell (p := ⟨b, o + 2 * k, none⟩) hbs).trans (hcell (2 * k) (by omega))
      have hcy : wr.cell? ⟨b, o + (2 * k + 1), none⟩ = some (.int .u8 y) := by rw [hy]; exact (gB.cell (p := ⟨b, o + (2 * k + 1), none⟩) hbs).trans (hcell (2 * k + 1) (by omega))
      have hts := take_app R k (by omega)
      rw [HRG.out k hlt, ← hx, ← hy] at hts
      have HN : Hid _ := hts
      clear hx hy hts hcell
      have hk16 : 2 * (k : Int) < 64 := by omega
      have s2 : (2 * (k : Int)).toNat = 2 * k := by omega
      have s4 : (0 : Int) ≤ 2 * (k : Int) := by omega
      have s5 : IntKind.i64.wrap (2 * (k : Int) + 1) = 2 * (k : Int) + 1 := by rw [IntKind.wrap_i64]; omega
      have s6 : (2 * (k : Int) + 1).toNat = 2 * k + 1 := by omega
      have s7 : 2 * (k : Int) + 1 < 64 := by omega
      have s8 : (0 : Int) ≤ 2 * (k : Int) + 1 := by omega
      have s9 : IntKind.i64.wrap x = x := by rw [IntKind.wrap_i64]; omega
      have s10 : IntKind.i64.wrap y = y := by rw [IntKind.wrap_i64]; omega
      have s11 : IntKind.i64.wrap (256 * y) = 256 * y := by rw [IntKind.wrap_i64]; omega
      have s12 : IntKind.i64.wrap (x + 256 * y) = x + 256 * y := by rw [IntKind.wrap_i64]; omega
      go_wp2
      go_region_held3 (fun W => W.cell? ⟨b, o + 2 * k, none⟩ = some (.int .u8 x) ∧ W.cell? ⟨b, o + (2 * k + 1), none⟩ = some (.int .u8 y)) (first | exact hS9 | go_keep)
        ((refine step_append_lies _ (by rfl) _ _ _ (by rfl) (w.heap.size + 1) 3 i0 _ 1 8 Tryd.underlying23 hi hz0 hz1 hz2 rfl (by omega) u3 k (I64 (R.take k)) (by rfl) ((hown.alloc _).drew)
            ⟨wr.heap.size, 0, none⟩ 1 1 (I64 [x + 256 * y]) (by rfl) (by rfl) (World.news_of_block (cs := #[.int .i64 (x + 256 * y)]) (t := 3) (fr := (0, 0)) (heap_alloc_new wr _)) (by simp [Value.oneCell'])
            (by omega) (by unfold maxLen; omega) (by omega) (by simp; omega) (wr.heap.size + 1) (by simp) ?_; intro gg cap w1 hown1 hgrow hat hltg; have hbA : Below (w.heap.size + 1) wr w1 := (((Below.refl _ _).alloc (by omega) _).drew).grown hgrow (by simp; omega) (fun j hj => (hown.lt j hj).1); have hS9 : w1.cell? ⟨b, o + 2 * k, none⟩ = some (.int .u8 x) ∧ w1.cell? ⟨b, o + (2 * k + 1), none⟩ = some (.int .u8 y) := ⟨(hbA.cell (p := ⟨b, o + 2 * k, none⟩) (by show b < w.heap.size + 1; omega)).trans hck, (hbA.cell (p := ⟨b, o + (2 * k + 1), none⟩) (by show b < w.heap.size + 1; omega)).trans hcy⟩))
      all_goals
        have g0' := g0.below hbA (by omega)
        have gB' := gB.trans (hbA.mono (by omega))
        have gs' := Nat.le_trans gs hbA.size
        have HR : Hid (w1.ownsRow (w.heap.size + 1) 3 1 (.slice (some ⟨gg, 0, none⟩) (k + 1) cap) (k + 1) (I64 (R.take (k + 1)))) := by
          unfold Hid
          rw [HN.out]
          simpa using hown1
        clear hown1 hgrow hown hbA hat hltg g0 gB gs hck hcy hS9
        go_wp2
        exact ⟨⟨k + 1, by omega, by go_num, HR.out, g0', gB', gs'⟩, by simp [intOf]; omega⟩
    · obtain rfl : k = 32 := by omega
      rw [List.take_of_length_le (by omega)] at hown
      obtain ⟨a', c', rfl, _, hIs⟩ := Is.own hown (fun x hx => by have := HRM.out x hx; omega)
      have HM' : Hid (Calls Tryd.prog 78 #[.slice a' 32 c'] wr fun e w' => e = .returned (.agg (I64 (redO (val R))).toArray) ∧ Below wr.heap.size wr w') := specMod a' 32 c' R wr hIs HRM.out (by omega)
      clear hown hIs hcell
      go_wp2_with fail
      refine HM'.out.mono ?_
      rintro e w5 ⟨rfl, hb5⟩
      have h25 := g0.kept hb5
      have hB5 := gB.trans (hb5.mono gB.size)
      have hLl := redO_len (val R)
      obtain ⟨L, hL⟩ : ∃ L, L = redO (val R) := ⟨_, rfl⟩
      rw [← hL] at hLl ⊢
      have hir : (Tryd.prog.info? 66).map (·.size) = some (I64 L).toArray.size := by simpa [hLl] using infoE
      have hr := h25.row (I64 L)
      have hbl := setRow_below hB5 w.heap.size (I64 L).toArray (Nat.le_refl _)
      have HLL : Hid _ := hL
      clear hL g0 gB hb5 HM'
      go_wp2_with (refine wpList_store_row rfl 66 _ _ rfl w.heap.size (I64 L).toArray rfl rfl 66 _ h25 hir (by simp [hLl]) (by simp [Value.oneCell']) ?_)
      exact bodyPost_ret (results_cell_row rfl _ _ w.heap.size 66 (I64 L).toArray (0, 0) _ rfl hr Tryd.underlying66 rfl hir) rfl ⟨by rw [HLL.out], hbl⟩

/-- What 64 bytes come to; nothing of another number of bytes. -/
def wdOk (bs : List Int) : Bool := decide (bs.length = 64)
def wdF (bs : List Int) : List Int := if wdOk bs = true then redO (val (wdL bs)) else []

set_option maxHeartbeats 2000000 in
theorem specScWide (a : Option Addr) (n c : Nat) (bs : List Int) (w : World) (hx : Bs w a n c bs) :
    Calls Tryd.prog 32 #[.slice a n c] w fun e w' => ∃ v, e = .returned (.tuple #[v, .bool (wdOk bs)]) ∧ ScIs w w' v (wdF bs) ∧ Below w.heap.size w w' := by
  have hl := hx.2.1
  obtain ⟨L, hL⟩ : ∃ L, L = wdF bs := ⟨_, rfl⟩
  obtain ⟨o, ho⟩ : ∃ o, o = wdOk bs := ⟨_, rfl⟩
  rw [← hL, ← ho]
  have HO : Hid _ := ho
  have HLL : Hid (L = if o = true then redO (val (wdL bs)) else []) := by unfold Hid; rw [hL, ho]; rfl
  clear hL ho
  have EE : S1 w (w.alloc (.cells #[.slice none 0 0] 25)) := ⟨(Below.refl _ _).alloc (Nat.le_refl _) _, Arr.new _ _ _⟩
  obtain ⟨W, hW⟩ : ∃ W, W = w.alloc (.cells #[.slice none 0 0] 25) := ⟨_, rfl⟩
  by_cases hn : n = 64
  rotate_left
  · have HE : Hid (o = false ∧ L = []) := by
      have h1 : o = false := by rw [HO.out]; unfold wdOk; simp [show ¬ bs.length = 64 by omega]
      exact ⟨h1, by rw [HLL.out, h1]; rfl⟩
    have hn' : ((n : Int) != 64) = true := by simp; omega
    have hn'' : ¬ ((n : Int) = 64) := by omega
    have HA : Hid _ := EE.pr
    have HB : Hid _ := EE.fr
    clear EE HO HLL hW hx hl
    go_enter Tryd.func32, Tryd.ntmps32
    go_wp2
    exact bodyPost_ret (results_row_tmp (v := .bool false) (cs := [.slice none 0 0]) rfl rfl rfl HA.out Tryd.underlying25 rfl infoSc) rfl ⟨_, by rw [HE.out.1], HE.out.2 ▸ scIs_nil _ _, HB.out⟩
  subst hn
  have HO1 : o = true := by rw [HO.out]; unfold wdOk; simp [hl]
  subst HO1
  have HE : Hid (L = redO (val (wdL bs))) := HLL.out
  have hLl : L.length = 16 := by rw [HE.out]; exact redO_len _
  have hLm : Lm L := by rw [HE.out]; exact redO_lm _
  clear HLL HO
  rw [← hW] at EE
  go_enter Tryd.func32, Tryd.ntmps32
  go_wp2_with fail
  rw [← hW]
  clear hW
  refine (specWide16 a c bs _ (hx.below EE.fr)).mono ?_
  rintro e w4 ⟨rfl, hb4⟩
  replace EE := EE.go hb4
  clear hb4
  rw [← HE.out]
  go_wp2_with fail
  refine (specScOut L _ hLl hLm).mono ?_
  rintro e w6 ⟨a', c', rfl, ho, hb6⟩
  have hlt := EE.pr.lt
  have hsz := EE.fr.size
  replace EE := EE.go hb6
  have HOW : Hid _ := own_base (own_other' ho ⟨w.heap.size, 0, none⟩ (.slice a' 16 c') hlt) hsz
  have hcr : w6.cell? ⟨w.heap.size, 0, none⟩ = some (.slice none 0 0) := EE.pr.cell 0
  have hfr := EE.pr.frozen 0
  have HA : Hid _ := EE.pr.set 0 (.slice a' 16 c')
  have HB : Hid _ := EE.fr.setCell (p := ⟨w.heap.size, 0, none⟩) (Nat.le_refl _) (.slice a' 16 c')
  clear EE ho hb6 hsz hlt
  go_wp2
  exact bodyPost_ret (results_row_tmp (v := .bool true) (cs := [.slice a' 16 c']) rfl rfl rfl HA.out Tryd.underlying25 rfl infoSc) rfl ⟨_, rfl, scIs_16 hLl HOW.out, HB.out⟩
end Go.Proofs.YtlafcjoccbinaaaDoor

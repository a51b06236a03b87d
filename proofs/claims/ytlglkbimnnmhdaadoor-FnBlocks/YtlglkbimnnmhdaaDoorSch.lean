/-
  What is proved here: the contract of the program's shaSchedule: the 64 words that SHA-256 makes of a block of 64 bytes. Where the program's two tables hold what its text lays into them.
-/
import Derived.Test.YtlglkbimnnmhdaaDoorSchM
import Derived.Test.YtlglkbimnnmhdaaDoorTn
import Derived.Deep.RegionHeld3
import Derived.BigRegion
namespace Go.Proofs.YtlglkbimnnmhdaaDoor
open Go.RowKit

abbrev Z64 : List Int := [0, 0, 0, 0, 0, 0, 0, 0, 0, 0, 0, 0, 0, 0, 0, 0, 0, 0, 0, 0, 0, 0, 0, 0, 0, 0, 0, 0, 0, 0, 0, 0, 0, 0, 0, 0, 0, 0, 0, 0, 0, 0, 0, 0, 0, 0, 0, 0, 0, 0, 0, 0, 0, 0, 0, 0, 0, 0, 0, 0, 0, 0, 0, 0]
theorem Z64_len : Z64.length = 64 := rfl
theorem Tryd.infoW64 : (Tryd.prog.info? 83).map (·.size) = some 64 := by kernel_rfl

/-- Where the schedule's loop stands. -/
structure Sd (w W : World) (g : Nat) (t : TypeId) (xs : List Int) (k : Nat) : Prop where
  tb : Tabs W
  fr : Below w.heap.size w W
  ar : Arr W g t (U32 (schedL xs k ++ List.replicate (64 - k) 0))
  ge : w.heap.size < g

theorem Sd.go {w W W' : World} {g : Nat} {t : TypeId} {xs : List Int} {k : Nat} (h : Sd w W g t xs k) (hb : Below W.heap.size W W') : Sd w W' g t xs k :=
  ⟨h.tb.below hb, h.fr.trans (hb.mono h.fr.size), h.ar.kept hb, h.ge⟩
theorem Tabs.set {w : World} (h : Tabs w) (p : Addr) (v : Value) (hp : 2 < p.block) : Tabs (w.setCell p v) :=
  ⟨fun j hj => (World.cell?_of_block (heap_setCell_other w p 2 v (by omega))).trans (h.tt j hj), fun j hj => (World.cell?_of_block (heap_setCell_other w p 1 v (by omega))).trans (h.tk j hj)⟩
theorem Sd.store {w W : World} {g : Nat} {t : TypeId} {xs : List Int} {k : Nat} (h : Sd w W g t xs k) (hk : k < 64) (h2 : 2 < w.heap.size) (v : Int) (hv : v = nextW xs (schedL xs k)) : Sd w (W.setCell ⟨g, k, none⟩ (.int .u32 v)) g t xs (k + 1) := by
  have ha := h.ar.set k (.int .u32 v)
  rw [set_sched xs k hk v hv] at ha
  have hg := h.ge
  exact ⟨h.tb.set _ _ (by show 2 < g; omega), h.fr.setCell (by show w.heap.size ≤ g; omega) _, ha, h.ge⟩
theorem Sd.get {w W : World} {g : Nat} {t : TypeId} {xs : List Int} {k : Nat} (h : Sd w W g t xs k) (j : Nat) (hj : j < k) : W.cell? ⟨g, j, none⟩ = some (.int .u32 ((schedL xs k).getD j 0)) := by
  rw [← sched_get xs k j (64 - k) hj]
  exact h.ar.u32 j (by simp [schedL_len]; omega)
theorem Sd.at {w W : World} {g : Nat} {t : TypeId} {xs : List Int} {k : Nat} (h : Sd w W g t xs k) (hk : k < 64) : W.cell? ⟨g, k, none⟩ = some (.int .u32 ((schedL xs k ++ List.replicate (64 - k) 0).getD k 0)) := h.ar.u32 k (by simp [schedL_len]; omega)
theorem Sd.four {w W : World} {g : Nat} {t : TypeId} {xs : List Int} {k : Nat} (h : Sd w W g t xs k) (h16 : 16 ≤ k) {y2 y7 y15 y16 : Int} (e2 : y2 = (schedL xs k).getD (k - 2) 0) (e7 : y7 = (schedL xs k).getD (k - 7) 0) (e15 : y15 = (schedL xs k).getD (k - 15) 0) (e16 : y16 = (schedL xs k).getD (k - 16) 0) :
    W.cell? ⟨g, k - 2, none⟩ = some (.int .u32 y2) ∧ W.cell? ⟨g, k - 7, none⟩ = some (.int .u32 y7) ∧ W.cell? ⟨g, k - 15, none⟩ = some (.int .u32 y15) ∧ W.cell? ⟨g, k - 16, none⟩ = some (.int .u32 y16) := by
  subst e2 e7 e15 e16
  exact ⟨h.get _ (by omega), h.get _ (by omega), h.get _ (by omega), h.get _ (by omega)⟩
theorem Sd.fourSet {w W : World} {g : Nat} {t : TypeId} {xs : List Int} {k : Nat} (h : Sd w W g t xs k) (h16 : 16 ≤ k) {y2 y7 y15 y16 : Int} (e2 : y2 = (schedL xs k).getD (k - 2) 0) (e7 : y7 = (schedL xs k).getD (k - 7) 0) (e15 : y15 = (schedL xs k).getD (k - 15) 0) (e16 : y16 = (schedL xs k).getD (k - 16) 0) (v : Value) :
    (W.setCell ⟨g, k, none⟩ v).cell? ⟨g, k - 2, none⟩ = some (.int .u32 y2) ∧ (W.setCell ⟨g, k, none⟩ v).cell? ⟨g, k - 7, none⟩ = some (.int .u32 y7) ∧ (W.setCell ⟨g, k, none⟩ v).cell? ⟨g, k - 15, none⟩ = some (.int .u32 y15) ∧ (W.setCell ⟨g, k, none⟩ v).cell? ⟨g, k - 16, none⟩ = some (.int .u32 y16) := by
  obtain ⟨a, b, c, d⟩ := h.four h16 e2 e7 e15 e16
  have ne : ∀ j, j ≠ k → (W.setCell ⟨g, k, none⟩ v).cell? ⟨g, j, none⟩ = W.cell? ⟨g, j, none⟩ := by
    intro j hj
    have hs := h.ar.set k v
    rw [hs.cell j, h.ar.cell j, List.getElem?_set_ne (Ne.symm hj)]
  exact ⟨(ne _ (by omega)).trans a, (ne _ (by omega)).trans b, (ne _ (by omega)).trans c, (ne _ (by omega)).trans d⟩

set_option maxHeartbeats 800000 in
theorem schedC (a : Option Addr) (c : Nat) (xs : List Int) (w : World) (h : Bs w a 64 c xs) (ht : Tabs w) :
    Calls Tryd.prog 69 #[.slice a 64 c] w fun e w' => e = .returned (.agg (U32 (schedL xs 64)).toArray) ∧ Below w.heap.size w w' := by
  have h2 := ht.size
  obtain ⟨_, hl, hc, hby, h⟩ := h
  rcases h with h | ⟨b, o, rfl, hbs, hcell⟩
  · omega
  obtain ⟨W, hW⟩ : ∃ W, W = (w.alloc (.cells (U32 Z64).toArray 83)).alloc (.cells (U32 Z64).toArray 83) := ⟨_, rfl⟩
  have hA0 : Arr W w.heap.size 83 (U32 Z64) := by rw [hW]; exact (Arr.new w _ _).alloc _
  have hA1 : Arr W (w.heap.size + 1) 83 (U32 (pl xs 0)) := by
    rw [hW, pl_zero]
    have := Arr.new (w.alloc (.cells (U32 Z64).toArray 83)) (U32 Z64) 83
    rw [show (w.alloc (.cells (U32 Z64).toArray 83)).heap.size = w.heap.size + 1 by simp] at this
    exact this
  have hB : Below w.heap.size w W := by rw [hW]; exact ((Below.refl _ _).alloc (Nat.le_refl _) _).alloc (by simp) _
  go_enter Tryd.func69, Tryd.ntmps69
  go_wp2
  go_loopw [9] (fun i wr => ∃ k : Nat, k ≤ 64 ∧ i = .int .i64 k ∧ Arr wr w.heap.size 83 (U32 Z64) ∧ Arr wr (w.heap.size + 1) 83 (U32 (pl xs k)) ∧ Below w.heap.size w wr) (fun i _ => 64 - (intOf i).toNat)
  case atStart => exact ⟨0, by omega, rfl, hW ▸ hA0, hW ▸ hA1, hW ▸ hB⟩
  case round =>
    obtain ⟨k, hk, rfl, h0, h1, hb⟩ := hrel
    clear hA0 hA1 hB hW
    by_cases hlt : k < 64
    · obtain ⟨x, hx⟩ : ∃ x, x = xs.getD k 0 := ⟨_, rfl⟩
      have hck : wr.cell? ⟨b, o + k, none⟩ = some (.int .u8 x) := by rw [hx]; exact (hb.cell (p := ⟨b, o + k, none⟩) hbs).trans (hcell k hlt)
      have hxb : 0 ≤ x ∧ x < 256 := by rw [hx]; exact get_byte hby (by omega)
      obtain ⟨hx0, hx1⟩ := hxb
      obtain ⟨v, hv⟩ : ∃ v, v = wv xs (k / 4) (k % 4) := ⟨_, rfl⟩
      have hvb := wv_byte xs hby (k / 4) (k % 4)
      rw [← hv] at hvb
      have hv3 : v < 16777216 := by
        have : (256 : Int) ^ (k % 4) ≤ 256 ^ 3 := by
          rcases (show k % 4 = 0 ∨ k % 4 = 1 ∨ k % 4 = 2 ∨ k % 4 = 3 by omega) with e | e | e | e <;> rw [e] <;> decide
        have h3 : (256 : Int) ^ 3 = 16777216 := by decide
        omega
      have hv0 := hvb.1
      have hor : bits .or .u32 (v * 256) x = v * 256 + x := u32_or8 (by omega) (by omega) (by omega) hx0 hx1
      have hget : wr.cell? ⟨w.heap.size + 1, k / 4, none⟩ = some (.int .u32 v) := by
        rw [h1.u32 (k / 4) (by rw [pl_len]; omega), pl_get xs k (k / 4) (by omega), hv, show min 4 (k - 4 * (k / 4)) = k % 4 by omega]
      have hcv : IntKind.u32.wrap x = x := by rw [IntKind.wrap_u32]; omega
      have hq : ((k : Int) / 4).toNat = k / 4 := by omega
      have hq0 : (0 : Int) ≤ (k : Int) / 4 := by omega
      have hq1 : (k : Int) / 4 < 64 := by omega
      have htd : (k : Int).tdiv 4 = (k : Int) / 4 := Int.tdiv_eq_ediv_of_nonneg (by omega)
      have hfz := h1.frozen (k / 4)
      have h1' := h1.set (k / 4) (.int .u32 (v * 256 + x))
      rw [hx, pl_set xs k v hv, ← hx] at h1'
      have h0' := h0.other ⟨w.heap.size + 1, k / 4, none⟩ (.int .u32 (v * 256 + x)) (by simp)
      have hb' := hb.setCell (p := ⟨w.heap.size + 1, k / 4, none⟩) (by simp) (.int .u32 (v * 256 + x))
      have H1 : Hid _ := h1'
      have H0 : Hid _ := h0'
      have HB : Hid _ := hb'
      clear h1' h0' hb' h0 h1 hb hcell hx hvb hby hv
      go_wp2
      go_roundw
      case rel => exact ⟨k + 1, by omega, by go_num, H0.out, H1.out, HB.out⟩
      case measure => simp [intOf]; omega
    · have hkn : k = 64 := by omega
      subst hkn
      rw [pl_end] at h1
      clear hcell hby hbs
      have ht0 := ht.below hb
      have SD0 : Sd w wr (w.heap.size + 1) 83 xs 16 := ⟨ht0, hb, h1, by omega⟩
      clear ht ht0 h1 hb
      go_wp2
      go_loopw [6] (fun i wr => ∃ k : Nat, 16 ≤ k ∧ k ≤ 64 ∧ i = .int .i64 k ∧ Arr wr w.heap.size 83 (U32 Z64) ∧ Sd w wr (w.heap.size + 1) 83 xs k) (fun i _ => 64 - (intOf i).toNat)
      case atStart => exact ⟨16, by omega, by omega, rfl, h0, SD0⟩
      case round =>
        clear h0 SD0
        obtain ⟨k, h16, hk, rfl, h0, SD⟩ := hrel
        by_cases hlt : k < 64
        · obtain ⟨y2, e2⟩ : ∃ y, y = (schedL xs k).getD (k - 2) 0 := ⟨_, rfl⟩
          obtain ⟨y7, e7⟩ : ∃ y, y = (schedL xs k).getD (k - 7) 0 := ⟨_, rfl⟩
          obtain ⟨y15, e15⟩ : ∃ y, y = (schedL xs k).getD (k - 15) 0 := ⟨_, rfl⟩
          obtain ⟨y16, e16⟩ : ∃ y, y = (schedL xs k).getD (k - 16) 0 := ⟨_, rfl⟩
          have hv := nextW_high xs k h16
          rw [← e2, ← e7, ← e15, ← e16] at hv
          have E2 : Hid _ := e2
          have E7 : Hid _ := e7
          have E15 : Hid _ := e15
          have E16 : Hid _ := e16
          have HV : Hid _ := hv
          clear e2 e7 e15 e16 hv
          have i2 : ((k : Int) - 2).toNat = k - 2 := by omega
          have i7 : ((k : Int) - 7).toNat = k - 7 := by omega
          have i15 : ((k : Int) - 15).toNat = k - 15 := by omega
          have i16 : ((k : Int) - 16).toNat = k - 16 := by omega
          have p2 : (2 : Int) ≤ (k : Int) := by omega
          have q2 : (k : Int) - 2 < 64 := by omega
          have r2 : IntKind.i64.wrap ((k : Int) - 2) = (k : Int) - 2 := by rw [IntKind.wrap_i64]; omega
          have p7 : (7 : Int) ≤ (k : Int) := by omega
          have q7 : (k : Int) - 7 < 64 := by omega
          have r7 : IntKind.i64.wrap ((k : Int) - 7) = (k : Int) - 7 := by rw [IntKind.wrap_i64]; omega
          have p15 : (15 : Int) ≤ (k : Int) := by omega
          have q15 : (k : Int) - 15 < 64 := by omega
          have r15 : IntKind.i64.wrap ((k : Int) - 15) = (k : Int) - 15 := by rw [IntKind.wrap_i64]; omega
          have p16 : (16 : Int) ≤ (k : Int) := by omega
          have q16 : (k : Int) - 16 < 64 := by omega
          have r16 : IntKind.i64.wrap ((k : Int) - 16) = (k : Int) - 16 := by rw [IntKind.wrap_i64]; omega
          have pk : (0 : Int) ≤ (k : Int) := by omega
          have qk : (k : Int) < 64 := by omega
          have hkk := SD.at hlt
          obtain ⟨uk, huk⟩ : ∃ uk, uk = (schedL xs k ++ List.replicate (64 - k) 0).getD k 0 := ⟨_, rfl⟩
          rw [← huk] at hkk
          have HU : Hid _ := huk
          clear huk
          have hfz := SD.ar.frozen k
          have h0' := h0.drew
          have SDr : Sd w wr.drew (w.heap.size + 1) 83 xs k := SD.go (Below.refl _ _).drew
          clear h0 SD
          go_wp2
          go_region_held3 (fun W => W.cell? ⟨w.heap.size + 1, k - 2, none⟩ = some (.int .u32 y2) ∧ W.cell? ⟨w.heap.size + 1, k - 7, none⟩ = some (.int .u32 y7) ∧ W.cell? ⟨w.heap.size + 1, k - 15, none⟩ = some (.int .u32 y15) ∧ W.cell? ⟨w.heap.size + 1, k - 16, none⟩ = some (.int .u32 y16))
            (first | exact SDr.four h16 E2.out E7.out E15.out E16.out | exact SDr.fourSet h16 E2.out E7.out E15.out E16.out _)
            ((first
              | (go_at_call_of 73 (Value.int IntKind.i64 3); refine (shift3 y2 _ SDr.tb).mono ?_; rintro e w' ⟨rfl, hbd⟩; replace h0' := h0'.kept hbd; replace SDr := SDr.go hbd; replace hkk := SDr.at hlt; rw [← HU.out] at hkk; replace hfz := SDr.ar.frozen k)
              | (go_at_call_of 73 (Value.int IntKind.i64 2); refine (shift2 y15 _ SDr.tb).mono ?_; rintro e w' ⟨rfl, hbd⟩; replace h0' := h0'.kept hbd; replace SDr := SDr.go hbd; replace hkk := SDr.at hlt; rw [← HU.out] at hkk; replace hfz := SDr.ar.frozen k)))
          all_goals
            have hz : IntKind.u32.wrap (IntKind.u32.wrap (IntKind.u32.wrap (sS1 y2 + y7) + sS0 y15) + y16) = nextW xs (schedL xs k) := by
              rw [HV.out]; simp only [IntKind.wrap_u32]; omega
            generalize IntKind.u32.wrap (IntKind.u32.wrap (IntKind.u32.wrap (sS1 y2 + y7) + sS0 y15) + y16) = z at hz ⊢
            have SD2 := SDr.store hlt h2 z hz
            have h02 := h0'.other ⟨w.heap.size + 1, k, none⟩ (.int .u32 z) (by simp)
            clear hz SDr h0' hkk hfz HV E2 E7 E15 E16 HU
            go_wp2
            go_roundw
            case rel => exact ⟨_, _, _, _, _, _, _, _, _, _, _, _, _, _, _, _, _, _, _, _, _, _, _, _, _, _, _, _, ⟨k + 1, by omega, by omega, by go_num, h02, SD2⟩, rfl⟩
            case measure => simp [intOf]; omega
        · have hkn : k = 64 := by omega
          subst hkn
          have e : schedL xs 64 ++ List.replicate (64 - 64) 0 = schedL xs 64 := by simp
          have h1 := SD.ar
          rw [e] at h1
          have hb := SD.fr
          have hlen := schedL_len xs 64
          obtain ⟨y, hy⟩ : ∃ y, y = schedL xs 64 := ⟨_, rfl⟩
          rw [← hy] at h1 hlen
          have HY : Hid _ := hy
          clear hy
          have h0' := h0.row (U32 y)
          have hb' := setRow_below hb w.heap.size (U32 y).toArray (Nat.le_refl _)
          have hsz := Tryd.infoW64
          clear e SD hb
          go_wp2_with (first
            | (refine wpList_load_row rfl 83 _ rfl (w.heap.size + 1) rfl 83 (U32 y).toArray (0, 0) _ h1 Tryd.underlying83 rfl (by simpa [hlen] using hsz) ?_)
            | (refine wpList_store_row rfl 83 _ _ rfl w.heap.size (U32 y).toArray rfl rfl 83 _ h0 (by simpa [hlen] using hsz) (by simp [hlen]) (by simp [Value.oneCell']) ?_))
          have hsz' : (Tryd.prog.info? 83).map (·.size) = some (U32 y).toArray.size := by simpa [hlen] using hsz
          exact bodyPost_ret (results_cell_row rfl _ _ w.heap.size 83 (U32 y).toArray (0, 0) _ rfl h0' Tryd.underlying83 rfl hsz') rfl ⟨by rw [HY.out], hb'⟩
end Go.Proofs.YtlglkbimnnmhdaaDoor

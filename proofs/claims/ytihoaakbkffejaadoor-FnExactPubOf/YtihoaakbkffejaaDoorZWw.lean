/-
  What is proved here: the contract of the specification's l3words: the 80 words that SHA-512 makes of a block of 128 bytes.
-/
import Derived.Test.YtihoaakbkffejaaDoorZOhb
import Derived.Deep.RegionHeld3
import Derived.BigRegion
namespace Go.Proofs.YtihoaakbkffejaaDoor
open Go.RowKit

theorem set_schedW (xs : List Int) (k : Nat) (h : k < 80) (v : Int) (hv : v = nextWw xs (schedW xs k)) :
    (U64 (schedW xs k ++ List.replicate (80 - k) 0)).set k (.int .u64 v) = U64 (schedW xs (k + 1) ++ List.replicate (80 - (k + 1)) 0) := by
  subst hv
  have e : 80 - k = (80 - (k + 1)) + 1 := by omega
  rw [schedW_snoc, e, List.replicate_succ]
  simp only [U64, List.map_append, List.map_cons]
  rw [List.set_append_right _ _ (by simp [schedW_len])]
  simp [schedW_len]
theorem schedW_get (xs : List Int) (k j m : Nat) (h : j < k) : (schedW xs k ++ List.replicate m 0).getD j 0 = (schedW xs k).getD j 0 := by
  simp [List.getD, List.getElem?_append_left, schedW_len, h]
theorem nextWw_high (xs : List Int) (k : Nat) (hk : 16 ≤ k) : nextWw xs (schedW xs k) = ((schedW xs k).getD (k - 16) 0 + tS0 ((schedW xs k).getD (k - 15) 0) + (schedW xs k).getD (k - 7) 0 + tS1 ((schedW xs k).getD (k - 2) 0)) % 18446744073709551616 := by
  unfold nextWw
  rw [schedW_len, if_neg (by omega)]
/-- While word i fills up. -/
def filW (xs : List Int) (i m : Nat) : List Int := schedW xs i ++ wvw xs i m :: List.replicate (79 - i) 0
theorem filW_len (xs : List Int) (i m : Nat) (hi : i < 80) : (filW xs i m).length = 80 := by simp [filW, schedW_len]; omega
theorem filW_zero (xs : List Int) (i : Nat) (hi : i < 80) : filW xs i 0 = schedW xs i ++ List.replicate (80 - i) 0 := by
  have e : 80 - i = (79 - i) + 1 := by omega
  rw [e, List.replicate_succ]
  rfl
theorem filW_get (xs : List Int) (i m : Nat) : (filW xs i m).getD i 0 = wvw xs i m := by
  simp [filW, List.getD, schedW_len]
theorem filW_set (xs : List Int) (i m : Nat) (v : Int) (hv : v = wvw xs i (m + 1)) : (U64 (filW xs i m)).set i (.int .u64 v) = U64 (filW xs i (m + 1)) := by
  subst hv
  simp only [filW, U64, List.map_append, List.map_cons]
  rw [List.set_append_right _ _ (by simp [schedW_len])]
  simp [schedW_len]
theorem filW_full (xs : List Int) (i : Nat) (hi : i < 16) : filW xs i 8 = schedW xs (i + 1) ++ List.replicate (80 - (i + 1)) 0 := by
  have e : 80 - (i + 1) = 79 - i := by omega
  have n : nextWw xs (schedW xs i) = wvw xs i 8 := by unfold nextWw; rw [schedW_len, if_pos hi]
  rw [schedW_snoc, n, e]
  simp [filW]
theorem Arr.setNeW {W : World} {g : Nat} {t : TypeId} {cs : List Value} (h : Arr W g t cs) (k : Nat) (v : Value) {j : Nat} (hj : j ≠ k) {u : Value} (hc : W.cell? ⟨g, j, none⟩ = some u) : (W.setCell ⟨g, k, none⟩ v).cell? ⟨g, j, none⟩ = some u := by
  have hs := h.set k v
  rw [h.cell j] at hc
  rw [hs.cell j, List.getElem?_set_ne (Ne.symm hj)]
  exact hc
theorem Tryd.infoW80 : (Tryd.prog.info? 69).map (·.size) = some 80 := by kernel_rfl

set_option maxRecDepth 100000 in
set_option maxHeartbeats 4000000 in
theorem specWordsW (a : Option Addr) (c : Nat) (xs : List Int) (w : World) (hx : Bs w a 128 c xs) :
    Calls Tryd.prog 38 #[.slice a 128 c] w fun e w' => e = .returned (.agg (U64 (schedW xs 80)).toArray) ∧ Below w.heap.size w w' := by
  obtain ⟨_, hxl, hc, hby, hx⟩ := hx
  rcases hx with hx | ⟨b, o, rfl, hbs, hcell⟩
  · omega
  have HBY : Hid _ := hby
  have HCELL : Hid _ := hcell
  clear hby hcell
  obtain ⟨W, hW⟩ : ∃ W, W = (w.alloc (.cells (U64 Z80).toArray 69)).alloc (.cells (U64 Z80).toArray 69) := ⟨_, rfl⟩
  have hB : Below w.heap.size w W := by rw [hW]; exact ((Below.refl _ _).alloc (Nat.le_refl _) _).alloc (by simp) _
  have hA2 : Arr W w.heap.size 69 (U64 Z80) := by rw [hW]; exact (Arr.new w _ _).alloc _
  have hA3 : Arr W (w.heap.size + 1) 69 (U64 (schedW xs 0 ++ List.replicate (80 - 0) 0)) := by
    rw [hW]
    have := Arr.new (w.alloc (.cells (U64 Z80).toArray 69)) (U64 Z80) 69
    rw [show (w.alloc (.cells (U64 Z80).toArray 69)).heap.size = w.heap.size + 1 by simp] at this
    exact this
  have hz80 := zero80
  have HW : Hid _ := hW
  have HA2 : Hid _ := hA2
  have HA3 : Hid _ := hA3
  have HB : Hid _ := hB
  clear hW hA2 hA3 hB
  go_enter Tryd.func38, Tryd.ntmps38
  go_wp2
  clear hz80
  go_loopw [4] (fun i wr => ∃ k : Nat, k ≤ 16 ∧ i = .int .i64 k ∧ Arr wr w.heap.size 69 (U64 Z80) ∧ Arr wr (w.heap.size + 1) 69 (U64 (schedW xs k ++ List.replicate (80 - k) 0)) ∧ Below w.heap.size w wr) (fun i _ => 16 - (intOf i).toNat)
  case atStart => exact ⟨0, by omega, rfl, HW.out ▸ HA2.out, HW.out ▸ HA3.out, HW.out ▸ HB.out⟩
  case round =>
    clear HW HA2 HA3 HB
    obtain ⟨k, hk, rfl, h2, h3, hb⟩ := hrel
    by_cases hlt : k < 16
    · have hk16 : (k : Int) < 16 := by omega
      rw [← filW_zero xs k (by omega)] at h3
      go_wp2
      go_loopw [5] (fun i wr' => ∃ m : Nat, m ≤ 8 ∧ i = .int .i64 m ∧ Arr wr' w.heap.size 69 (U64 Z80) ∧ Arr wr' (w.heap.size + 1) 69 (U64 (filW xs k m)) ∧ Below w.heap.size w wr') (fun i _ => 8 - (intOf i).toNat)
      case atStart => exact ⟨0, by omega, rfl, h2, h3, hb⟩
      case round =>
        clear h2 h3 hb
        obtain ⟨m, hm, rfl, h2, h3, hb⟩ := hrel
        by_cases hm8 : m < 8
        · obtain ⟨x, ex⟩ : ∃ x, x = xs.getD (8 * k + m) 0 := ⟨_, rfl⟩
          obtain ⟨hx0, hx1⟩ : 0 ≤ x ∧ x < 256 := by rw [ex]; exact get_byte HBY.out (by omega)
          obtain ⟨v, ev⟩ : ∃ v, v = wvw xs k m := ⟨_, rfl⟩
          have hv : wvw xs k (m + 1) = v * 256 + x := by rw [ev, ex]; rfl
          have hvr : 0 ≤ v ∧ v < 72057594037927936 := by
            have h := wvw_range HBY.out k m
            have h' : (256 : Int) ^ m ≤ 256 ^ 7 := by
              have hc : m = 0 ∨ m = 1 ∨ m = 2 ∨ m = 3 ∨ m = 4 ∨ m = 5 ∨ m = 6 ∨ m = 7 := by omega
              rcases hc with rfl | rfl | rfl | rfl | rfl | rfl | rfl | rfl <;> decide
            rw [← ev] at h
            omega
          obtain ⟨hv0, hv1⟩ := hvr
          have cb : wr.cell? ⟨b, o + (8 * k + m), none⟩ = some (.int .u8 x) := by rw [ex]; exact (hb.cell (p := ⟨b, o + (8 * k + m), none⟩) hbs).trans (HCELL.out _ (by omega))
          have ck := h3.u64 k (by rw [filW_len xs k m (by omega)]; omega)
          rw [filW_get, ← ev] at ck
          have hfz := h3.frozen k
          have HV : Hid _ := hv
          clear ev ex hv
          have r0 : IntKind.i64.wrap (8 * (k : Int)) = 8 * (k : Int) := by rw [IntKind.wrap_i64]; omega
          have r1 : IntKind.i64.wrap (8 * (k : Int) + (m : Int)) = 8 * (k : Int) + (m : Int) := by rw [IntKind.wrap_i64]; omega
          have q1 : 8 * (k : Int) + (m : Int) < 128 := by omega
          have p1 : (0 : Int) ≤ 8 * (k : Int) + (m : Int) := by omega
          have i1 : (8 * (k : Int) + (m : Int)).toNat = 8 * k + m := by omega
          have pk : (0 : Int) ≤ (k : Int) := by omega
          have qk : (k : Int) < 80 := by omega
          have s0 : v * 256 % 18446744073709551616 = v * 256 := by omega
          have s1 : IntKind.u64.wrap (v * 256) = v * 256 := by rw [wrap_u64]; omega
          have s2 : IntKind.u64.wrap x = x := by rw [wrap_u64]; omega
          have hor := u64_or8 (x := v * 256) (y := x) (by omega) (by omega) (by omega) hx0 hx1
          have hne : b ≠ w.heap.size + 1 := by omega
          have hm8' : (m : Int) < 8 := by omega
          go_wp2
          go_region
          obtain ⟨z, hz⟩ : ∃ z, z = v * 256 + x := ⟨_, rfl⟩
          rw [← hz]
          have h3' := h3.set k (.int .u64 z)
          rw [filW_set xs k m z (by rw [HV.out, hz])] at h3'
          have H3 : Hid (Arr (wr.setCell ⟨w.heap.size + 1, k, none⟩ (.int .u64 z)).drew _ _ _) := h3'
          have H2 : Hid (Arr (wr.setCell ⟨w.heap.size + 1, k, none⟩ (.int .u64 z)).drew _ _ _) := h2.other ⟨w.heap.size + 1, k, none⟩ (.int .u64 z) (by simp)
          have HB := (hb.setCell (p := ⟨w.heap.size + 1, k, none⟩) (by simp) (.int .u64 z)).drew
          clear h3' h2 h3 hb hz hor HV cb ck hfz
          go_wp2
          go_roundw
          case rel => exact ⟨m + 1, by omega, by go_num, H2.out, H3.out, HB⟩
          case measure => simp [intOf]; omega
        · obtain rfl : m = 8 := by omega
          rw [filW_full xs k hlt] at h3
          have H3 : Hid _ := h3
          have H2 : Hid _ := h2
          clear h3 h2
          go_wp2
          go_roundw
          case rel => exact ⟨k + 1, by omega, by go_num, H2.out, H3.out, hb⟩
          case measure => simp [intOf]; omega
    · have hkn : k = 16 := by omega
      subst hkn
      clear HCELL HBY hbs
      have hsz0 := h3.lt
      go_wp2
      go_loopw [6] (fun i wr => ∃ k : Nat, 16 ≤ k ∧ k ≤ 80 ∧ i = .int .i64 k ∧ Arr wr w.heap.size 69 (U64 Z80) ∧ Arr wr (w.heap.size + 1) 69 (U64 (schedW xs k ++ List.replicate (80 - k) 0)) ∧ Below w.heap.size w wr) (fun i _ => 80 - (intOf i).toNat)
      case atStart => exact ⟨16, by omega, by omega, rfl, h2, h3, hb⟩
      case round =>
        clear h2 h3 hb
        obtain ⟨k, h16, hk, rfl, h2, h5, hb⟩ := hrel
        by_cases hlt : k < 80
        · obtain ⟨y2, e2⟩ : ∃ y, y = (schedW xs k).getD (k - 2) 0 := ⟨_, rfl⟩
          obtain ⟨y7, e7⟩ : ∃ y, y = (schedW xs k).getD (k - 7) 0 := ⟨_, rfl⟩
          obtain ⟨y15, e15⟩ : ∃ y, y = (schedW xs k).getD (k - 15) 0 := ⟨_, rfl⟩
          obtain ⟨y16, e16⟩ : ∃ y, y = (schedW xs k).getD (k - 16) 0 := ⟨_, rfl⟩
          have hget : ∀ j, j < k → wr.cell? ⟨w.heap.size + 1, j, none⟩ = some (.int .u64 ((schedW xs k).getD j 0)) := by
            intro j hj
            rw [← schedW_get xs k j (80 - k) hj]
            exact h5.u64 j (by simp [schedW_len]; omega)
          have c2 := hget (k - 2) (by omega)
          have c7 := hget (k - 7) (by omega)
          have c15 := hget (k - 15) (by omega)
          have c16 := hget (k - 16) (by omega)
          rw [← e2] at c2
          rw [← e7] at c7
          rw [← e15] at c15
          rw [← e16] at c16
          have hv := nextWw_high xs k h16
          rw [← e2, ← e7, ← e15, ← e16] at hv
          have HV : Hid _ := hv
          clear e2 e7 e15 e16 hv hget
          have i2 : ((k : Int) - 2).toNat = k - 2 := by omega
          have p2 : (2 : Int) ≤ (k : Int) := by omega
          have q2 : (k : Int) - 2 < 80 := by omega
          have r2 : IntKind.i64.wrap ((k : Int) - 2) = (k : Int) - 2 := by rw [IntKind.wrap_i64]; omega
          have i7 : ((k : Int) - 7).toNat = k - 7 := by omega
          have p7 : (7 : Int) ≤ (k : Int) := by omega
          have q7 : (k : Int) - 7 < 80 := by omega
          have r7 : IntKind.i64.wrap ((k : Int) - 7) = (k : Int) - 7 := by rw [IntKind.wrap_i64]; omega
          have i15 : ((k : Int) - 15).toNat = k - 15 := by omega
          have p15 : (15 : Int) ≤ (k : Int) := by omega
          have q15 : (k : Int) - 15 < 80 := by omega
          have r15 : IntKind.i64.wrap ((k : Int) - 15) = (k : Int) - 15 := by rw [IntKind.wrap_i64]; omega
          have i16 : ((k : Int) - 16).toNat = k - 16 := by omega
          have p16 : (16 : Int) ≤ (k : Int) := by omega
          have q16 : (k : Int) - 16 < 80 := by omega
          have r16 : IntKind.i64.wrap ((k : Int) - 16) = (k : Int) - 16 := by rw [IntKind.wrap_i64]; omega
          have pk : (0 : Int) ≤ (k : Int) := by omega
          have qk : (k : Int) < 80 := by omega
          have hkk := h5.u64 k (by simp [schedW_len]; omega)
          have hfz := h5.frozen k
          obtain ⟨uk, huk⟩ : ∃ uk, uk = (schedW xs k ++ List.replicate (80 - k) 0).getD k 0 := ⟨_, rfl⟩
          rw [← huk] at hkk
          clear huk
          go_wp2
          go_quiet (fail)
          go_wp2_with fail
          refine (specTurnW y15 1 (by omega) (by omega) _ rfl _).mono ?_
          rintro e w1 ⟨rfl, t1, rfl⟩
          go_wp2_with fail
          refine (specTurnW y15 8 (by omega) (by omega) _ rfl _).mono ?_
          rintro e w1 ⟨rfl, t2, rfl⟩
          go_wp2_with fail
          refine (specTurnW y2 19 (by omega) (by omega) _ rfl _).mono ?_
          rintro e w1 ⟨rfl, t3, rfl⟩
          go_wp2_with fail
          refine (specTurnW y2 61 (by omega) (by omega) _ rfl _).mono ?_
          rintro e w1 ⟨rfl, t4, rfl⟩
          go_wp2
          have eA : bits .xor .u64 (bits .xor .u64 (rotw y15 1) (rotw y15 8)) (y15 / 128) = tS0 y15 := rfl
          have eB : bits .xor .u64 (bits .xor .u64 (rotw y2 19) (rotw y2 61)) (y2 / 64) = tS1 y2 := rfl
          rw [eA, eB]
          clear eA eB
          obtain ⟨A, hA⟩ : ∃ A, A = tS0 y15 := ⟨_, rfl⟩
          obtain ⟨B, hB⟩ : ∃ B, B = tS1 y2 := ⟨_, rfl⟩
          rw [← hA, ← hB]
          have HAB : Hid (nextWw xs (schedW xs k) = (y16 + A + y7 + B) % 18446744073709551616) := by unfold Hid; rw [HV.out, hA, hB]
          clear hA hB HV
          have hk2 : k - 16 ≠ k := by omega
          have hk3 : k - 7 ≠ k := by omega
          go_region_held3 (fun W => W.cell? ⟨w.heap.size + 1, k - 16, none⟩ = some (.int .u64 y16) ∧ W.cell? ⟨w.heap.size + 1, k - 7, none⟩ = some (.int .u64 y7)) (first | exact ⟨c16, c7⟩ | exact ⟨Arr.setNeW (h5.drewN _) _ _ hk2 c16, Arr.setNeW (h5.drewN _) _ _ hk3 c7⟩) (fail)
          have hz : IntKind.u64.wrap (IntKind.u64.wrap (IntKind.u64.wrap (y16 + A) + y7) + B) = nextWw xs (schedW xs k) := by
            rw [HAB.out]; simp only [wrap_u64]; omega
          generalize IntKind.u64.wrap (IntKind.u64.wrap (IntKind.u64.wrap (y16 + A) + y7) + B) = z at hz ⊢
          have h5' := (h5.drewN (nq + t1 + t2 + t3 + t4 + 1)).set k (.int .u64 z)
          rw [set_schedW xs k hlt z hz] at h5'
          have h2' := (h2.drewN (nq + t1 + t2 + t3 + t4 + 1)).other ⟨w.heap.size + 1, k, none⟩ (.int .u64 z) (by simp)
          have hb' := (bel_dN hb (nq + t1 + t2 + t3 + t4 + 1)).setCell (p := ⟨w.heap.size + 1, k, none⟩) (by simp) (.int .u64 z)
          clear h5 h2 hb hz HAB c2 c7 c15 c16 hkk hfz
          go_wp2
          refine ⟨⟨_, _, _, _, _, _, _, _, _, _, _, _, _, _, _, _, _, _, _, _, _, _, _, _, _, _, _, _, _, _, _, _, _, _, _, _, _, _, _, _, _, _, _, _, _, _, _, _, ⟨k + 1, by omega, by omega, by go_num, h2', h5', hb'⟩, rfl⟩, ?_⟩
          simp [intOf]
          omega
        · obtain rfl : k = 80 := by omega
          have e : schedW xs 80 ++ List.replicate (80 - 80) 0 = schedW xs 80 := by simp
          rw [e] at h5
          obtain ⟨ws, hws⟩ : ∃ ws, ws = schedW xs 80 := ⟨_, rfl⟩
          have hwl : ws.length = 80 := by rw [hws]; exact schedW_len xs 80
          rw [← hws] at h5
          have HWS : Hid _ := hws
          clear e hws
          have h2' := h2.row (U64 ws)
          have hb' := setRow_below hb w.heap.size (U64 ws).toArray (Nat.le_refl _)
          have hsz : (Tryd.prog.info? 69).map (·.size) = some (U64 ws).toArray.size := by simpa [hwl] using Tryd.infoW80
          go_wp2_with (first
            | (refine wpList_load_row rfl 69 _ rfl (w.heap.size + 1) rfl 69 (U64 ws).toArray (0, 0) _ h5 Tryd.underlying69 rfl hsz ?_)
            | (refine wpList_store_row rfl 69 _ _ rfl w.heap.size (U64 ws).toArray rfl rfl 69 _ h2 hsz (by simp [hwl]) (by simp [Value.oneCell']) ?_))
          exact bodyPost_ret (results_cell_row rfl _ _ w.heap.size 69 (U64 ws).toArray (0, 0) _ rfl h2' Tryd.underlying69 rfl hsz) rfl ⟨by rw [HWS.out], hb'⟩
end Go.Proofs.YtihoaakbkffejaaDoor

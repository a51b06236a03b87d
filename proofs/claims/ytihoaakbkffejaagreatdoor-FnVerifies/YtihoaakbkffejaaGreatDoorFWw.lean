/-
  What is proved here: the contract of the specification's l3words: the 80 words that SHA-512; the contract of the specification's l3block: what SHA-512 makes of eight; the eight bytes of a length in bits.
-/
import Derived.Test.YtihoaakbkffejaaGreatDoorFKe
import Derived.Deep.RegionHeld3
import Derived.BigRegion
import Derived.Test.YtihoaakbkffejaaGreatDoorFFm
namespace Go.Proofs.YtihoaakbkffejaaGreatDoor
open Go.RowKit

theorem set_schedW (xs : List Int) (k : Nat) (h : k < 80) (v : Int) (hv : v = nextWw xs (schedW xs k)) :
  (U64 (schedW xs k ++ List.replicate (80 - k) 0)).set k (.int .u64 v) = U64 (schedW xs (k + 1) ++ List.replicate (80 - (k + 1)) 0) := by
 subst hv
 have e : 80 - k = (80 - (k + 1)) + 1 := by omega
 rw [schedW_snoc, e, List.replicate_succ]
 simp only [U64, List.map_append, List.map_cons]
 rw [List.set_append_right _ _ (by simp [schedW_len])]
 simp [schedW_len]
theorem schedW_get (xs : List Int) (k j m : Nat) (h : j < k) : (schedW xs k ++ List.replicate m 0).getD j 0 = (schedW xs k).getD j 0 := by
 simp [List.getD, List.getElem?_append_left, schedW_len, h]
theorem nextWw_high (xs : List Int) (k : Nat) (hk : 16 ≤ k) : nextWw xs (schedW xs k) = ((schedW xs k).getD (k - 16) 0 + tS0 ((schedW xs k).getD (k - 15) 0) + (schedW xs k).getD (k - 7) 0 + tS1 ((schedW xs k).getD (k - 2) 0)) % 18446744073709551616 := by
 unfold nextWw
 rw [schedW_len, if_neg (by omega)]
def filW (xs : List Int) (i m : Nat) : List Int := schedW xs i ++ wvw xs i m :: List.replicate (79 - i) 0
theorem filW_len (xs : List Int) (i m : Nat) (hi : i < 80) : (filW xs i m).length = 80 := by simp [filW, schedW_len]; omega
theorem filW_zero (xs : List Int) (i : Nat) (hi : i < 80) : filW xs i 0 = schedW xs i ++ List.replicate (80 - i) 0 := by
 have e : 80 - i = (79 - i) + 1 := by omega
 rw [e, List.replicate_succ]
 rfl
theorem filW_get (xs : List Int) (i m : Nat) : (filW xs i m).getD i 0 = wvw xs i m := by
 simp [filW, List.getD, schedW_len]
theorem filW_set (xs : List Int) (i m : Nat) (v : Int) (hv : v = wvw xs i (m + 1)) : (U64 (filW xs i m)).set i (.int .u64 v) = U64 (filW xs i (m + 1)) := by
 subst hv
 simp only [filW, U64, List.map_append, List.map_cons]
 rw [List.set_append_right _ _ (by simp [schedW_len])]
 simp [schedW_len]
theorem filW_full (xs : List Int) (i : Nat) (hi : i < 16) : filW xs i 8 = schedW xs (i + 1) ++ List.replicate (80 - (i + 1)) 0 := by
 have e : 80 - (i + 1) = 79 - i := by omega
 have n : nextWw xs (schedW xs i) = wvw xs i 8 := by unfold nextWw; rw [schedW_len, if_pos hi]
 rw [schedW_snoc, n, e]
 simp [filW]
theorem Arr.setNeW {W : World} {g : Nat} {t : TypeId} {cs : List Value} (h : Arr W g t cs) (k : Nat) (v : Value) {j : Nat} (hj : j ≠ k) {u : Value} (hc : W.cell? ⟨g, j, none⟩ = some u) : (W.setCell ⟨g, k, none⟩ v).cell? ⟨g, j, none⟩ = some u := by
 have hs := h.set k v
 rw [h.cell j] at hc
 rw [hs.cell j, List.getElem?_set_ne (Ne.symm hj)]
 exact hc
theorem Tryz.infoW80 : (Tryz.prog.info? 160).map (·.size) = some 80 := by kernel_rfl

set_option maxRecDepth 100000 in
set_option maxHeartbeats 4000000 in
theorem specWordsW (a : Option Addr) (c : Nat) (xs : List Int) (w : World) (hx : Bs w a 128 c xs) :
  Calls Tryz.prog 142 #[.slice a 128 c] w fun e w' => e = .returned (.agg (U64 (schedW xs 80)).toArray) ∧ Below w.heap.size w w' := by
 obtain ⟨_, hxl, hc, hby, hx⟩ := hx
 rcases hx with hx | ⟨b, o, rfl, hbs, hcell⟩
 ·omega
 have HBY : Hid _ := hby
 have HCELL : Hid _ := hcell
 clear hby hcell
 obtain ⟨W, hW⟩ : ∃ W, W = (w.alloc (.cells (U64 Z80).toArray 160)).alloc (.cells (U64 Z80).toArray 160) := ⟨_, rfl⟩
 have hB : Below w.heap.size w W := by rw [hW]; exact ((Below.refl _ _).alloc (Nat.le_refl _) _).alloc (by simp) _
 have hA2 : Arr W w.heap.size 160 (U64 Z80) := by rw [hW]; exact (Arr.new w _ _).alloc _
 have hA3 : Arr W (w.heap.size + 1) 160 (U64 (schedW xs 0 ++ List.replicate (80 - 0) 0)) := by
  rw [hW]
  have := Arr.new (w.alloc (.cells (U64 Z80).toArray 160)) (U64 Z80) 160
  rw [show (w.alloc (.cells (U64 Z80).toArray 160)).heap.size = w.heap.size + 1 by simp] at this
  exact this
 have hz80 := zero80
 have HW : Hid _ := hW
 have HA2 : Hid _ := hA2
 have HA3 : Hid _ := hA3
 have HB : Hid _ := hB
 clear hW hA2 hA3 hB
 go_enter Tryz.func142, Tryz.ntmps142
 go_wp2
 clear hz80
 go_loopw [4] (fun i wr => ∃ k : Nat, k ≤ 16 ∧ i = .int .i64 k ∧ Arr wr w.heap.size 160 (U64 Z80) ∧ Arr wr (w.heap.size + 1) 160 (U64 (schedW xs k ++ List.replicate (80 - k) 0)) ∧ Below w.heap.size w wr) (fun i _ => 16 - (intOf i).toNat)
 case atStart => exact ⟨0, by omega, rfl, HW.out ▸ HA2.out, HW.out ▸ HA3.out, HW.out ▸ HB.out⟩
 case round =>
  clear HW HA2 HA3 HB
  obtain ⟨k, hk, rfl, h2, h3, hb⟩ := hrel
  by_cases hlt : k < 16
  ·have hk16 : (k : Int) < 16 := by omega
   rw [← filW_zero xs k (by omega)] at h3
   go_wp2
   go_loopw [5] (fun i wr' => ∃ m : Nat, m ≤ 8 ∧ i = .int .i64 m ∧ Arr wr' w.heap.size 160 (U64 Z80) ∧ Arr wr' (w.heap.size + 1) 160 (U64 (filW xs k m)) ∧ Below w.heap.size w wr') (fun i _ => 8 - (intOf i).toNat)
   case atStart => exact ⟨0, by omega, rfl, h2, h3, hb⟩
   case round =>
    clear h2 h3 hb
    obtain ⟨m, hm, rfl, h2, h3, hb⟩ := hrel
    by_cases hm8 : m < 8
    ·obtain ⟨x, ex⟩ : ∃ x, x = xs.getD (8 * k + m) 0 := ⟨_, rfl⟩
     obtain ⟨hx0, hx1⟩ : 0 ≤ x ∧ x < 256 := by rw [ex]; exact get_byte HBY.out (by omega)
     obtain ⟨v, ev⟩ : ∃ v, v = wvw xs k m := ⟨_, rfl⟩
     have hv : wvw xs k (m + 1) = v * 256 + x := by rw [ev, ex]; rfl
     have hvr : 0 ≤ v ∧ v < 72057594037927936 := by
      have h := wvw_range HBY.out k m
      have h' : (256 : Int) ^ m ≤ 256 ^ 7 := by
       have hc : m = 0 ∨ m = 1 ∨ m = 2 ∨ m = 3 ∨ m = 4 ∨ m = 5 ∨ m = 6 ∨ m = 7 := by omega
       rcases hc with rfl | rfl | rfl | rfl | rfl | rfl | rfl | rfl <;> decide
      rw [← ev] at h
      omega
     obtain ⟨hv0, hv1⟩ := hvr
     have cb : wr.cell? ⟨b, o + (8 * k + m), none⟩ = some (.int .u8 x) := by rw [ex]; exact (hb.cell (p := ⟨b, o + (8 * k + m), none⟩) hbs).trans (HCELL.out _ (by omega))
     have ck := h3.u64 k (by rw [filW_len xs k m (by omega)]; omega)
     rw [filW_get, ← ev] at ck
     have hfz := h3.frozen k
     have HV : Hid _ := hv
     clear ev ex hv
     have r0 : IntKind.i64.wrap (8 * (k : Int)) = 8 * (k : Int) := by rw [IntKind.wrap_i64]; omega
     have r1 : IntKind.i64.wrap (8 * (k : Int) + (m : Int)) = 8 * (k : Int) + (m : Int) := by rw [IntKind.wrap_i64]; omega
     have q1 : 8 * (k : Int) + (m : Int) < 128 := by omega
     have p1 : (0 : Int) ≤ 8 * (k : Int) + (m : Int) := by omega
     have i1 : (8 * (k : Int) + (m : Int)).toNat = 8 * k + m := by omega
     have pk : (0 : Int) ≤ (k : Int) := by omega
     have qk : (k : Int) < 80 := by omega
     have s0 : v * 256 % 18446744073709551616 = v * 256 := by omega
     have s1 : IntKind.u64.wrap (v * 256) = v * 256 := by rw [wrap_u64]; omega
     have s2 : IntKind.u64.wrap x = x := by rw [wrap_u64]; omega
     have hor := u64_or8 (x := v * 256) (y := x) (by omega) (by omega) (by omega) hx0 hx1
     have hne : b ≠ w.heap.size + 1 := by omega
     have hm8' : (m : Int) < 8 := by omega
     go_wp2
     go_region
     obtain ⟨z, hz⟩ : ∃ z, z = v * 256 + x := ⟨_, rfl⟩
     rw [← hz]
     have h3' := h3.set k (.int .u64 z)
     rw [filW_set xs k m z (by rw [HV.out, hz])] at h3'
     have H3 : Hid (Arr (wr.setCell ⟨w.heap.size + 1, k, none⟩ (.int .u64 z)).drew _ _ _) := h3'
     have H2 : Hid (Arr (wr.setCell ⟨w.heap.size + 1, k, none⟩ (.int .u64 z)).drew _ _ _) := h2.other ⟨w.heap.size + 1, k, none⟩ (.int .u64 z) (by simp)
     have HB := (hb.setCell (p := ⟨w.heap.size + 1, k, none⟩) (by simp) (.int .u64 z)).drew
     clear h3' h2 h3 hb hz hor HV cb ck hfz
     go_wp2
     go_roundw
     case rel => exact ⟨m + 1, by omega, by go_num, H2.out, H3.out, HB⟩
     case measure => simp [intOf]; omega
    ·obtain rfl : m = 8 := by omega
     rw [filW_full xs k hlt] at h3
     have H3 : Hid _ := h3
     have H2 : Hid _ := h2
     clear h3 h2
     go_wp2
     go_roundw
     case rel => exact ⟨k + 1, by omega, by go_num, H2.out, H3.out, hb⟩
     case measure => simp [intOf]; omega
  ·have hkn : k = 16 := by omega
   subst hkn
   clear HCELL HBY hbs
   have hsz0 := h3.lt
   go_wp2
   go_loopw [6] (fun i wr => ∃ k : Nat, 16 ≤ k ∧ k ≤ 80 ∧ i = .int .i64 k ∧ Arr wr w.heap.size 160 (U64 Z80) ∧ Arr wr (w.heap.size + 1) 160 (U64 (schedW xs k ++ List.replicate (80 - k) 0)) ∧ Below w.heap.size w wr) (fun i _ => 80 - (intOf i).toNat)
   case atStart => exact ⟨16, by omega, by omega, rfl, h2, h3, hb⟩
   case round =>
    clear h2 h3 hb
    obtain ⟨k, h16, hk, rfl, h2, h5, hb⟩ := hrel
    by_cases hlt : k < 80
    ·obtain ⟨y2, e2⟩ : ∃ y, y = (schedW xs k).getD (k - 2) 0 := ⟨_, rfl⟩
     obtain ⟨y7, e7⟩ : ∃ y, y = (schedW xs k).getD (k - 7) 0 := ⟨_, rfl⟩
     obtain ⟨y15, e15⟩ : ∃ y, y = (schedW xs k).getD (k - 15) 0 := ⟨_, rfl⟩
     obtain ⟨y16, e16⟩ : ∃ y, y = (schedW xs k).getD (k - 16) 0 := ⟨_, rfl⟩
     have hget : ∀ j, j < k → wr.cell? ⟨w.heap.size + 1, j, none⟩ = some (.int .u64 ((schedW xs k).getD j 0)) := by
      intro j hj
      rw [← schedW_get xs k j (80 - k) hj]
      exact h5.u64 j (by simp [schedW_len]; omega)
     have c2 := hget (k - 2) (by omega)
     have c7 := hget (k - 7) (by omega)
     have c15 := hget (k - 15) (by omega)
     have c16 := hget (k - 16) (by omega)
     rw [← e2] at c2
     rw [← e7] at c7
     rw [← e15] at c15
     rw [← e16] at c16
     have hv := nextWw_high xs k h16
     rw [← e2, ← e7, ← e15, ← e16] at hv
     have HV : Hid _ := hv
     clear e2 e7 e15 e16 hv hget
     have i2 : ((k : Int) - 2).toNat = k - 2 := by omega
     have p2 : (2 : Int) ≤ (k : Int) := by omega
     have q2 : (k : Int) - 2 < 80 := by omega
     have r2 : IntKind.i64.wrap ((k : Int) - 2) = (k : Int) - 2 := by rw [IntKind.wrap_i64]; omega
     have i7 : ((k : Int) - 7).toNat = k - 7 := by omega
     have p7 : (7 : Int) ≤ (k : Int) := by omega
     have q7 : (k : Int) - 7 < 80 := by omega
     have r7 : IntKind.i64.wrap ((k : Int) - 7) = (k : Int) - 7 := by rw [IntKind.wrap_i64]; omega
     have i15 : ((k : Int) - 15).toNat = k - 15 := by omega
     have p15 : (15 : Int) ≤ (k : Int) := by omega
     have q15 : (k : Int) - 15 < 80 := by omega
     have r15 : IntKind.i64.wrap ((k : Int) - 15) = (k : Int) - 15 := by rw [IntKind.wrap_i64]; omega
     have i16 : ((k : Int) - 16).toNat = k - 16 := by omega
     have p16 : (16 : Int) ≤ (k : Int) := by omega
     have q16 : (k : Int) - 16 < 80 := by omega
     have r16 : IntKind.i64.wrap ((k : Int) - 16) = (k : Int) - 16 := by rw [IntKind.wrap_i64]; omega
     have pk : (0 : Int) ≤ (k : Int) := by omega
     have qk : (k : Int) < 80 := by omega
     have hkk := h5.u64 k (by simp [schedW_len]; omega)
     have hfz := h5.frozen k
     obtain ⟨uk, huk⟩ : ∃ uk, uk = (schedW xs k ++ List.replicate (80 - k) 0).getD k 0 := ⟨_, rfl⟩
     rw [← huk] at hkk
     clear huk
     go_wp2
     go_quiet (fail)
     go_wp2_with fail
     refine (specTurnW y15 1 (by omega) (by omega) _ rfl _).mono ?_
     rintro e w1 ⟨rfl, t1, rfl⟩
     go_wp2_with fail
     refine (specTurnW y15 8 (by omega) (by omega) _ rfl _).mono ?_
     rintro e w1 ⟨rfl, t2, rfl⟩
     go_wp2_with fail
     refine (specTurnW y2 19 (by omega) (by omega) _ rfl _).mono ?_
     rintro e w1 ⟨rfl, t3, rfl⟩
     go_wp2_with fail
     refine (specTurnW y2 61 (by omega) (by omega) _ rfl _).mono ?_
     rintro e w1 ⟨rfl, t4, rfl⟩
     go_wp2
     have eA : bits .xor .u64 (bits .xor .u64 (rotw y15 1) (rotw y15 8)) (y15 / 128) = tS0 y15 := rfl
     have eB : bits .xor .u64 (bits .xor .u64 (rotw y2 19) (rotw y2 61)) (y2 / 64) = tS1 y2 := rfl
     rw [eA, eB]
     clear eA eB
     obtain ⟨A, hA⟩ : ∃ A, A = tS0 y15 := ⟨_, rfl⟩
     obtain ⟨B, hB⟩ : ∃ B, B = tS1 y2 := ⟨_, rfl⟩
     rw [← hA, ← hB]
     have HAB : Hid (nextWw xs (schedW xs k) = (y16 + A + y7 + B) % 18446744073709551616) := by unfold Hid; rw [HV.out, hA, hB]
     clear hA hB HV
     have hk2 : k - 16 ≠ k := by omega
     have hk3 : k - 7 ≠ k := by omega
     go_region_held3 (fun W => W.cell? ⟨w.heap.size + 1, k - 16, none⟩ = some (.int .u64 y16) ∧ W.cell? ⟨w.heap.size + 1, k - 7, none⟩ = some (.int .u64 y7)) (first | exact ⟨c16, c7⟩ | exact ⟨Arr.setNeW (h5.drewN _) _ _ hk2 c16, Arr.setNeW (h5.drewN _) _ _ hk3 c7⟩) (fail)
     have hz : IntKind.u64.wrap (IntKind.u64.wrap (IntKind.u64.wrap (y16 + A) + y7) + B) = nextWw xs (schedW xs k) := by
      rw [HAB.out]; simp only [wrap_u64]; omega
     generalize IntKind.u64.wrap (IntKind.u64.wrap (IntKind.u64.wrap (y16 + A) + y7) + B) = z at hz ⊢
     have h5' := (h5.drewN (nq + t1 + t2 + t3 + t4 + 1)).set k (.int .u64 z)
     rw [set_schedW xs k hlt z hz] at h5'
     have h2' := (h2.drewN (nq + t1 + t2 + t3 + t4 + 1)).other ⟨w.heap.size + 1, k, none⟩ (.int .u64 z) (by simp)
     have hb' := (bel_dN hb (nq + t1 + t2 + t3 + t4 + 1)).setCell (p := ⟨w.heap.size + 1, k, none⟩) (by simp) (.int .u64 z)
     clear h5 h2 hb hz HAB c2 c7 c15 c16 hkk hfz
     go_wp2
     refine ⟨⟨_, _, _, _, _, _, _, _, _, _, _, _, _, _, _, _, _, _, _, _, _, _, _, _, _, _, _, _, _, _, _, _, _, _, _, _, _, _, _, _, _, _, _, _, _, _, _, _, ⟨k + 1, by omega, by omega, by go_num, h2', h5', hb'⟩, rfl⟩, ?_⟩
     simp [intOf]
     omega
    ·obtain rfl : k = 80 := by omega
     have e : schedW xs 80 ++ List.replicate (80 - 80) 0 = schedW xs 80 := by simp
     rw [e] at h5
     obtain ⟨ws, hws⟩ : ∃ ws, ws = schedW xs 80 := ⟨_, rfl⟩
     have hwl : ws.length = 80 := by rw [hws]; exact schedW_len xs 80
     rw [← hws] at h5
     have HWS : Hid _ := hws
     clear e hws
     have h2' := h2.row (U64 ws)
     have hb' := setRow_below hb w.heap.size (U64 ws).toArray (Nat.le_refl _)
     have hsz : (Tryz.prog.info? 160).map (·.size) = some (U64 ws).toArray.size := by simpa [hwl] using Tryz.infoW80
     go_wp2_with (first
      | (refine wpList_load_row rfl 160 _ rfl (w.heap.size + 1) rfl 160 (U64 ws).toArray (0, 0) _ h5 Tryz.underlying160 rfl hsz ?_)
      | (refine wpList_store_row rfl 160 _ _ rfl w.heap.size (U64 ws).toArray rfl rfl 160 _ h2 hsz (by simp [hwl]) (by simp [Value.oneCell']) ?_))
     exact bodyPost_ret (results_cell_row rfl _ _ w.heap.size 160 (U64 ws).toArray (0, 0) _ rfl h2' Tryz.underlying160 rfl hsz) rfl ⟨by rw [HWS.out], hb'⟩
theorem Tryz.infoH8 : (Tryz.prog.info? 100).map (·.size) = some 8 := by kernel_rfl
abbrev Z8W : List Int := [0, 0, 0, 0, 0, 0, 0, 0]

def zlw (hs st : List Int) (k : Nat) : List Int := (List.zipWith (fun x y => (x + y) % 18446744073709551616) hs st).take k ++ hs.drop k
theorem zlw_len (hs st : List Int) (h1 : hs.length = 8) (h2 : st.length = 8) (k : Nat) (hk : k ≤ 8) : (zlw hs st k).length = 8 := by simp [zlw, h1, h2]; omega
theorem zlw_get (hs st : List Int) (h1 : hs.length = 8) (h2 : st.length = 8) (k : Nat) (hk : k < 8) : (zlw hs st k).getD k 0 = hs.getD k 0 := by
  unfold zlw
  rw [List.getD_eq_getElem?_getD, List.getElem?_append_right (by simp [h1, h2]; omega)]
  simp [h1, h2, Nat.min_eq_left (show k ≤ 8 by omega)]
theorem zlw_set (hs st : List Int) (h1 : hs.length = 8) (h2 : st.length = 8) (k : Nat) (hk : k < 8) (v : Int) (hv : v = (hs.getD k 0 + st.getD k 0) % 18446744073709551616) :
    (U64 (zlw hs st k)).set k (.int .u64 v) = U64 (zlw hs st (k + 1)) := by
  subst hv
  have hz : (List.zipWith (fun x y => (x + y) % 18446744073709551616) hs st).length = 8 := by simp [h1, h2]
  have e1 : (List.zipWith (fun x y => (x + y) % 18446744073709551616) hs st).take (k + 1) = (List.zipWith (fun x y => (x + y) % 18446744073709551616) hs st).take k ++ [(hs.getD k 0 + st.getD k 0) % 18446744073709551616] := by
    rw [List.take_succ_eq_append_getElem (by omega)]
    congr 2
    rw [List.getElem_zipWith]
    simp [h1, h2, hk]
  have e2 : hs.drop k = hs.getD k 0 :: hs.drop (k + 1) := by
    rw [List.drop_eq_getElem_cons (by omega)]
    congr 1
    simp [h1, hk]
  unfold zlw
  rw [e1, e2]
  simp only [U64, List.map_append, List.map_cons, List.map_nil]
  rw [List.set_append_right _ _ (by simp [h1, h2]; omega)]
  simp [h1, h2, Nat.min_eq_left (show k ≤ 8 by omega)]

structure BdW (w W : World) (P G : Nat) (hs ws st : List Int) : Prop where
  a2 : Arr W w.heap.size 100 (U64 hs)
  a4 : Arr W (w.heap.size + 1) 100 (U64 Z8W)
  a5 : Arr W P 160 (U64 ws)
  a12 : Arr W G 100 (U64 st)
  fr : Below w.heap.size w W
  ge : w.heap.size + 1 < P
  gg : P < G
theorem BdW.go {w W W' : World} {P G : Nat} {hs ws st : List Int} (h : BdW w W P G hs ws st) (hb : Below W.heap.size W W') : BdW w W' P G hs ws st :=
  ⟨h.a2.kept hb, h.a4.kept hb, h.a5.kept hb, h.a12.kept hb, h.fr.trans (hb.mono h.fr.size), h.ge, h.gg⟩
theorem BdW.cells {w W : World} {P G : Nat} {hs ws : List Int} {a0 a1 a2 a3 a4 a5 a6 a7 : Int} (h : BdW w W P G hs ws [a0, a1, a2, a3, a4, a5, a6, a7]) (k : Nat) (hk : k < ws.length) :
    W.cell? ⟨G, 0, none⟩ = some (.int .u64 a0) ∧ W.cell? ⟨G, 1, none⟩ = some (.int .u64 a1) ∧ W.cell? ⟨G, 2, none⟩ = some (.int .u64 a2) ∧ W.cell? ⟨G, 3, none⟩ = some (.int .u64 a3) ∧ W.cell? ⟨G, 4, none⟩ = some (.int .u64 a4) ∧
      W.cell? ⟨G, 5, none⟩ = some (.int .u64 a5) ∧ W.cell? ⟨G, 6, none⟩ = some (.int .u64 a6) ∧ W.cell? ⟨G, 7, none⟩ = some (.int .u64 a7) ∧ W.cell? ⟨P, k, none⟩ = some (.int .u64 (ws.getD k 0)) :=
  ⟨h.a12.u64 0 (by simp), h.a12.u64 1 (by simp), h.a12.u64 2 (by simp), h.a12.u64 3 (by simp), h.a12.u64 4 (by simp), h.a12.u64 5 (by simp), h.a12.u64 6 (by simp), h.a12.u64 7 (by simp), h.a5.u64 k hk⟩
theorem BdW.set8 {w W : World} {P G : Nat} {hs ws : List Int} {a0 a1 a2 a3 a4 a5 a6 a7 : Int} (h : BdW w W P G hs ws [a0, a1, a2, a3, a4, a5, a6, a7]) (l0 l1 l2 l3 l4 l5 l6 l7 : Int) :
    BdW w ((((((((W.setCell ⟨G, 0, none⟩ (.int .u64 l0)).setCell ⟨G, 1, none⟩ (.int .u64 l1)).setCell ⟨G, 2, none⟩ (.int .u64 l2)).setCell ⟨G, 3, none⟩ (.int .u64 l3)).setCell ⟨G, 4, none⟩ (.int .u64 l4)).setCell ⟨G, 5, none⟩ (.int .u64 l5)).setCell ⟨G, 6, none⟩ (.int .u64 l6)).setCell ⟨G, 7, none⟩ (.int .u64 l7)) P G hs ws [l0, l1, l2, l3, l4, l5, l6, l7] := by
  have hg := h.ge
  have hgg := h.gg
  have oth : ∀ {g : Nat} {t : TypeId} {cs : List Value}, Arr W g t cs → g ≠ G → Arr ((((((((W.setCell ⟨G, 0, none⟩ (.int .u64 l0)).setCell ⟨G, 1, none⟩ (.int .u64 l1)).setCell ⟨G, 2, none⟩ (.int .u64 l2)).setCell ⟨G, 3, none⟩ (.int .u64 l3)).setCell ⟨G, 4, none⟩ (.int .u64 l4)).setCell ⟨G, 5, none⟩ (.int .u64 l5)).setCell ⟨G, 6, none⟩ (.int .u64 l6)).setCell ⟨G, 7, none⟩ (.int .u64 l7)) g t cs :=
    fun ha hne => (((((((ha.other _ _ hne).other _ _ hne).other _ _ hne).other _ _ hne).other _ _ hne).other _ _ hne).other _ _ hne).other _ _ hne
  exact ⟨oth h.a2 (by omega), oth h.a4 (by omega), oth h.a5 (by omega), h.a12.setW l0 l1 l2 l3 l4 l5 l6 l7, set8_below h.fr (by omega) _ _ _ _ _ _ _ _, h.ge, h.gg⟩
theorem BdW.two {w W : World} {P G : Nat} {hs ws : List Int} {a0 a1 a2 a3 a4 a5 a6 a7 x : Int} (h : BdW w W P G hs ws [a0, a1, a2, a3, a4, a5, a6, a7]) {k : Nat} (hk : k < ws.length) (hx : x = ws.getD k 0) :
    W.cell? ⟨G, 7, none⟩ = some (.int .u64 a7) ∧ W.cell? ⟨P, k, none⟩ = some (.int .u64 x) := by
  subst hx
  exact ⟨h.a12.u64 7 (by simp), h.a5.u64 k hk⟩

set_option maxRecDepth 100000 in
set_option maxHeartbeats 8000000 in
theorem specBlockW (hs : List Int) (a : Option Addr) (c : Nat) (xs : List Int) (w : World) (hl : hs.length = 8) (hx : Bs w a 128 c xs) :
    Calls Tryz.prog 123 #[.agg (U64 hs).toArray, .slice a 128 c] w fun e w' => e = .returned (.agg (U64 (blkw hs xs)).toArray) ∧ Below w.heap.size w w' := by
  obtain ⟨l0, l1, l2, l3, l4, l5, l6, l7, hhs⟩ := list8 hl
  obtain ⟨W, hW⟩ : ∃ W, W = (w.alloc (.cells (U64 hs).toArray 100)).alloc (.cells (U64 Z8W).toArray 100) := ⟨_, rfl⟩
  have hB : Below w.heap.size w W := by rw [hW]; exact ((Below.refl _ _).alloc (Nat.le_refl _) _).alloc (by simp) _
  have hA2 : Arr W w.heap.size 100 (U64 hs) := by rw [hW]; exact (Arr.new w _ _).alloc _
  have hA4 : Arr W (w.heap.size + 1) 100 (U64 Z8W) := by
    rw [hW]
    have := Arr.new (w.alloc (.cells (U64 hs).toArray 100)) (U64 Z8W) 100
    rw [show (w.alloc (.cells (U64 hs).toArray 100)).heap.size = w.heap.size + 1 by simp] at this
    exact this
  rw [hhs] at hW
  go_enter Tryz.func123, Tryz.ntmps123
  rw [show (Value.agg (U64 hs).toArray) = Value.agg #[.int .u64 l0, .int .u64 l1, .int .u64 l2, .int .u64 l3, .int .u64 l4, .int .u64 l5, .int .u64 l6, .int .u64 l7] by rw [hhs]; rfl]
  have HHS : Hid _ := hhs
  have HW : Hid _ := hW
  clear hhs hW
  go_wp2_with fail
  rw [show (w.alloc (.cells #[.int .u64 l0, .int .u64 l1, .int .u64 l2, .int .u64 l3, .int .u64 l4, .int .u64 l5, .int .u64 l6, .int .u64 l7] 100)).alloc (.cells #[.int .u64 0, .int .u64 0, .int .u64 0, .int .u64 0, .int .u64 0, .int .u64 0, .int .u64 0, .int .u64 0] 100) = W from HW.out.symm]
  refine (specWordsW a c xs _ (hx.below hB)).mono ?_
  rintro e w2 ⟨rfl, b2⟩
  obtain ⟨ws, hws⟩ : ∃ ws, ws = schedW xs 80 := ⟨_, rfl⟩
  have hwl : ws.length = 80 := by rw [hws]; exact schedW_len xs 80
  rw [← hws]
  have HK : Hid (blkw hs xs = zlw hs (rndw ws KW hs 80) 8) := by
    unfold Hid zlw blkw
    rw [← hws]
    have : (List.zipWith (fun x y => (x + y) % 18446744073709551616) hs (rndw ws KW hs 80)).length = 8 := by simp [rndw_len _ _ hl, hl]
    rw [List.take_of_length_le (by omega)]
    simp [hl]
  have h2 := hA2.kept b2
  have h4 := hA4.kept b2
  have hb := hB.trans (b2.mono hB.size)
  clear hws hA2 hA4 hB b2 HW hx
  have hz80 := zero80
  have hsz80 : (Tryz.prog.info? 160).map (·.size) = some (U64 ws).toArray.size := by simpa [hwl] using Tryz.infoW80
  have hZ := Arr.new w2 (U64 Z80) 160
  have hsz2 := h4.lt
  have hX : Arr ((w2.alloc (.cells (U64 Z80).toArray 160)).setRow w2.heap.size (U64 ws).toArray) w.heap.size 100 (U64 [l0, l1, l2, l3, l4, l5, l6, l7]) := by
    have h := h2
    rw [HHS.out] at h
    exact (h.alloc _).rowOther _ _ (by omega)
  have hX2 : Arr ((w2.alloc (.cells (U64 Z80).toArray 160)).setRow w2.heap.size (U64 ws).toArray) w.heap.size 100 (U64 hs) := (h2.alloc _).rowOther _ _ (by omega)
  have hX4 : Arr ((w2.alloc (.cells (U64 Z80).toArray 160)).setRow w2.heap.size (U64 ws).toArray) (w.heap.size + 1) 100 (U64 Z8W) := (h4.alloc _).rowOther _ _ (by omega)
  have hX5 : Arr ((w2.alloc (.cells (U64 Z80).toArray 160)).setRow w2.heap.size (U64 ws).toArray) w2.heap.size 160 (U64 ws) := hZ.row (U64 ws)
  have hXb : Below w.heap.size w ((w2.alloc (.cells (U64 Z80).toArray 160)).setRow w2.heap.size (U64 ws).toArray) := setRow_below (hb.alloc hb.size _) w2.heap.size (U64 ws).toArray hb.size
  have c0 : ((w2.alloc (.cells #[.int .u64 0, .int .u64 0, .int .u64 0, .int .u64 0, .int .u64 0, .int .u64 0, .int .u64 0, .int .u64 0, .int .u64 0, .int .u64 0, .int .u64 0, .int .u64 0, .int .u64 0, .int .u64 0, .int .u64 0, .int .u64 0, .int .u64 0, .int .u64 0, .int .u64 0, .int .u64 0, .int .u64 0, .int .u64 0, .int .u64 0, .int .u64 0, .int .u64 0, .int .u64 0, .int .u64 0, .int .u64 0, .int .u64 0, .int .u64 0, .int .u64 0, .int .u64 0, .int .u64 0, .int .u64 0, .int .u64 0, .int .u64 0, .int .u64 0, .int .u64 0, .int .u64 0, .int .u64 0, .int .u64 0, .int .u64 0, .int .u64 0, .int .u64 0, .int .u64 0, .int .u64 0, .int .u64 0, .int .u64 0, .int .u64 0, .int .u64 0, .int .u64 0, .int .u64 0, .int .u64 0, .int .u64 0, .int .u64 0, .int .u64 0, .int .u64 0, .int .u64 0, .int .u64 0, .int .u64 0, .int .u64 0, .int .u64 0, .int .u64 0, .int .u64 0, .int .u64 0, .int .u64 0, .int .u64 0, .int .u64 0, .int .u64 0, .int .u64 0, .int .u64 0, .int .u64 0, .int .u64 0, .int .u64 0, .int .u64 0, .int .u64 0, .int .u64 0, .int .u64 0, .int .u64 0, .int .u64 0] 160)).setRow w2.heap.size (U64 ws).toArray).cell? ⟨w.heap.size, 0, none⟩ = some (.int .u64 l0) := by simpa using hX.u64 0 (by simp)
  have c1 : ((w2.alloc (.cells #[.int .u64 0, .int .u64 0, .int .u64 0, .int .u64 0, .int .u64 0, .int .u64 0, .int .u64 0, .int .u64 0, .int .u64 0, .int .u64 0, .int .u64 0, .int .u64 0, .int .u64 0, .int .u64 0, .int .u64 0, .int .u64 0, .int .u64 0, .int .u64 0, .int .u64 0, .int .u64 0, .int .u64 0, .int .u64 0, .int .u64 0, .int .u64 0, .int .u64 0, .int .u64 0, .int .u64 0, .int .u64 0, .int .u64 0, .int .u64 0, .int .u64 0, .int .u64 0, .int .u64 0, .int .u64 0, .int .u64 0, .int .u64 0, .int .u64 0, .int .u64 0, .int .u64 0, .int .u64 0, .int .u64 0, .int .u64 0, .int .u64 0, .int .u64 0, .int .u64 0, .int .u64 0, .int .u64 0, .int .u64 0, .int .u64 0, .int .u64 0, .int .u64 0, .int .u64 0, .int .u64 0, .int .u64 0, .int .u64 0, .int .u64 0, .int .u64 0, .int .u64 0, .int .u64 0, .int .u64 0, .int .u64 0, .int .u64 0, .int .u64 0, .int .u64 0, .int .u64 0, .int .u64 0, .int .u64 0, .int .u64 0, .int .u64 0, .int .u64 0, .int .u64 0, .int .u64 0, .int .u64 0, .int .u64 0, .int .u64 0, .int .u64 0, .int .u64 0, .int .u64 0, .int .u64 0, .int .u64 0] 160)).setRow w2.heap.size (U64 ws).toArray).cell? ⟨w.heap.size, 1, none⟩ = some (.int .u64 l1) := by simpa using hX.u64 1 (by simp)
  have c2 : ((w2.alloc (.cells #[.int .u64 0, .int .u64 0, .int .u64 0, .int .u64 0, .int .u64 0, .int .u64 0, .int .u64 0, .int .u64 0, .int .u64 0, .int .u64 0, .int .u64 0, .int .u64 0, .int .u64 0, .int .u64 0, .int .u64 0, .int .u64 0, .int .u64 0, .int .u64 0, .int .u64 0, .int .u64 0, .int .u64 0, .int .u64 0, .int .u64 0, .int .u64 0, .int .u64 0, .int .u64 0, .int .u64 0, .int .u64 0, .int .u64 0, .int .u64 0, .int .u64 0, .int .u64 0, .int .u64 0, .int .u64 0, .int .u64 0, .int .u64 0, .int .u64 0, .int .u64 0, .int .u64 0, .int .u64 0, .int .u64 0, .int .u64 0, .int .u64 0, .int .u64 0, .int .u64 0, .int .u64 0, .int .u64 0, .int .u64 0, .int .u64 0, .int .u64 0, .int .u64 0, .int .u64 0, .int .u64 0, .int .u64 0, .int .u64 0, .int .u64 0, .int .u64 0, .int .u64 0, .int .u64 0, .int .u64 0, .int .u64 0, .int .u64 0, .int .u64 0, .int .u64 0, .int .u64 0, .int .u64 0, .int .u64 0, .int .u64 0, .int .u64 0, .int .u64 0, .int .u64 0, .int .u64 0, .int .u64 0, .int .u64 0, .int .u64 0, .int .u64 0, .int .u64 0, .int .u64 0, .int .u64 0, .int .u64 0] 160)).setRow w2.heap.size (U64 ws).toArray).cell? ⟨w.heap.size, 2, none⟩ = some (.int .u64 l2) := by simpa using hX.u64 2 (by simp)
  have c3 : ((w2.alloc (.cells #[.int .u64 0, .int .u64 0, .int .u64 0, .int .u64 0, .int .u64 0, .int .u64 0, .int .u64 0, .int .u64 0, .int .u64 0, .int .u64 0, .int .u64 0, .int .u64 0, .int .u64 0, .int .u64 0, .int .u64 0, .int .u64 0, .int .u64 0, .int .u64 0, .int .u64 0, .int .u64 0, .int .u64 0, .int .u64 0, .int .u64 0, .int .u64 0, .int .u64 0, .int .u64 0, .int .u64 0, .int .u64 0, .int .u64 0, .int .u64 0, .int .u64 0, .int .u64 0, .int .u64 0, .int .u64 0, .int .u64 0, .int .u64 0, .int .u64 0, .int .u64 0, .int .u64 0, .int .u64 0, .int .u64 0, .int .u64 0, .int .u64 0, .int .u64 0, .int .u64 0, .int .u64 0, .int .u64 0, .int .u64 0, .int .u64 0, .int .u64 0, .int .u64 0, .int .u64 0, .int .u64 0, .int .u64 0, .int .u64 0, .int .u64 0, .int .u64 0, .int .u64 0, .int .u64 0, .int .u64 0, .int .u64 0, .int .u64 0, .int .u64 0, .int .u64 0, .int .u64 0, .int .u64 0, .int .u64 0, .int .u64 0, .int .u64 0, .int .u64 0, .int .u64 0, .int .u64 0, .int .u64 0, .int .u64 0, .int .u64 0, .int .u64 0, .int .u64 0, .int .u64 0, .int .u64 0, .int .u64 0] 160)).setRow w2.heap.size (U64 ws).toArray).cell? ⟨w.heap.size, 3, none⟩ = some (.int .u64 l3) := by simpa using hX.u64 3 (by simp)
  have c4 : ((w2.alloc (.cells #[.int .u64 0, .int .u64 0, .int .u64 0, .int .u64 0, .int .u64 0, .int .u64 0, .int .u64 0, .int .u64 0, .int .u64 0, .int .u64 0, .int .u64 0, .int .u64 0, .int .u64 0, .int .u64 0, .int .u64 0, .int .u64 0, .int .u64 0, .int .u64 0, .int .u64 0, .int .u64 0, .int .u64 0, .int .u64 0, .int .u64 0, .int .u64 0, .int .u64 0, .int .u64 0, .int .u64 0, .int .u64 0, .int .u64 0, .int .u64 0, .int .u64 0, .int .u64 0, .int .u64 0, .int .u64 0, .int .u64 0, .int .u64 0, .int .u64 0, .int .u64 0, .int .u64 0, .int .u64 0, .int .u64 0, .int .u64 0, .int .u64 0, .int .u64 0, .int .u64 0, .int .u64 0, .int .u64 0, .int .u64 0, .int .u64 0, .int .u64 0, .int .u64 0, .int .u64 0, .int .u64 0, .int .u64 0, .int .u64 0, .int .u64 0, .int .u64 0, .int .u64 0, .int .u64 0, .int .u64 0, .int .u64 0, .int .u64 0, .int .u64 0, .int .u64 0, .int .u64 0, .int .u64 0, .int .u64 0, .int .u64 0, .int .u64 0, .int .u64 0, .int .u64 0, .int .u64 0, .int .u64 0, .int .u64 0, .int .u64 0, .int .u64 0, .int .u64 0, .int .u64 0, .int .u64 0, .int .u64 0] 160)).setRow w2.heap.size (U64 ws).toArray).cell? ⟨w.heap.size, 4, none⟩ = some (.int .u64 l4) := by simpa using hX.u64 4 (by simp)
  have c5 : ((w2.alloc (.cells #[.int .u64 0, .int .u64 0, .int .u64 0, .int .u64 0, .int .u64 0, .int .u64 0, .int .u64 0, .int .u64 0, .int .u64 0, .int .u64 0, .int .u64 0, .int .u64 0, .int .u64 0, .int .u64 0, .int .u64 0, .int .u64 0, .int .u64 0, .int .u64 0, .int .u64 0, .int .u64 0, .int .u64 0, .int .u64 0, .int .u64 0, .int .u64 0, .int .u64 0, .int .u64 0, .int .u64 0, .int .u64 0, .int .u64 0, .int .u64 0, .int .u64 0, .int .u64 0, .int .u64 0, .int .u64 0, .int .u64 0, .int .u64 0, .int .u64 0, .int .u64 0, .int .u64 0, .int .u64 0, .int .u64 0, .int .u64 0, .int .u64 0, .int .u64 0, .int .u64 0, .int .u64 0, .int .u64 0, .int .u64 0, .int .u64 0, .int .u64 0, .int .u64 0, .int .u64 0, .int .u64 0, .int .u64 0, .int .u64 0, .int .u64 0, .int .u64 0, .int .u64 0, .int .u64 0, .int .u64 0, .int .u64 0, .int .u64 0, .int .u64 0, .int .u64 0, .int .u64 0, .int .u64 0, .int .u64 0, .int .u64 0, .int .u64 0, .int .u64 0, .int .u64 0, .int .u64 0, .int .u64 0, .int .u64 0, .int .u64 0, .int .u64 0, .int .u64 0, .int .u64 0, .int .u64 0, .int .u64 0] 160)).setRow w2.heap.size (U64 ws).toArray).cell? ⟨w.heap.size, 5, none⟩ = some (.int .u64 l5) := by simpa using hX.u64 5 (by simp)
  have c6 : ((w2.alloc (.cells #[.int .u64 0, .int .u64 0, .int .u64 0, .int .u64 0, .int .u64 0, .int .u64 0, .int .u64 0, .int .u64 0, .int .u64 0, .int .u64 0, .int .u64 0, .int .u64 0, .int .u64 0, .int .u64 0, .int .u64 0, .int .u64 0, .int .u64 0, .int .u64 0, .int .u64 0, .int .u64 0, .int .u64 0, .int .u64 0, .int .u64 0, .int .u64 0, .int .u64 0, .int .u64 0, .int .u64 0, .int .u64 0, .int .u64 0, .int .u64 0, .int .u64 0, .int .u64 0, .int .u64 0, .int .u64 0, .int .u64 0, .int .u64 0, .int .u64 0, .int .u64 0, .int .u64 0, .int .u64 0, .int .u64 0, .int .u64 0, .int .u64 0, .int .u64 0, .int .u64 0, .int .u64 0, .int .u64 0, .int .u64 0, .int .u64 0, .int .u64 0, .int .u64 0, .int .u64 0, .int .u64 0, .int .u64 0, .int .u64 0, .int .u64 0, .int .u64 0, .int .u64 0, .int .u64 0, .int .u64 0, .int .u64 0, .int .u64 0, .int .u64 0, .int .u64 0, .int .u64 0, .int .u64 0, .int .u64 0, .int .u64 0, .int .u64 0, .int .u64 0, .int .u64 0, .int .u64 0, .int .u64 0, .int .u64 0, .int .u64 0, .int .u64 0, .int .u64 0, .int .u64 0, .int .u64 0, .int .u64 0] 160)).setRow w2.heap.size (U64 ws).toArray).cell? ⟨w.heap.size, 6, none⟩ = some (.int .u64 l6) := by simpa using hX.u64 6 (by simp)
  have c7 : ((w2.alloc (.cells #[.int .u64 0, .int .u64 0, .int .u64 0, .int .u64 0, .int .u64 0, .int .u64 0, .int .u64 0, .int .u64 0, .int .u64 0, .int .u64 0, .int .u64 0, .int .u64 0, .int .u64 0, .int .u64 0, .int .u64 0, .int .u64 0, .int .u64 0, .int .u64 0, .int .u64 0, .int .u64 0, .int .u64 0, .int .u64 0, .int .u64 0, .int .u64 0, .int .u64 0, .int .u64 0, .int .u64 0, .int .u64 0, .int .u64 0, .int .u64 0, .int .u64 0, .int .u64 0, .int .u64 0, .int .u64 0, .int .u64 0, .int .u64 0, .int .u64 0, .int .u64 0, .int .u64 0, .int .u64 0, .int .u64 0, .int .u64 0, .int .u64 0, .int .u64 0, .int .u64 0, .int .u64 0, .int .u64 0, .int .u64 0, .int .u64 0, .int .u64 0, .int .u64 0, .int .u64 0, .int .u64 0, .int .u64 0, .int .u64 0, .int .u64 0, .int .u64 0, .int .u64 0, .int .u64 0, .int .u64 0, .int .u64 0, .int .u64 0, .int .u64 0, .int .u64 0, .int .u64 0, .int .u64 0, .int .u64 0, .int .u64 0, .int .u64 0, .int .u64 0, .int .u64 0, .int .u64 0, .int .u64 0, .int .u64 0, .int .u64 0, .int .u64 0, .int .u64 0, .int .u64 0, .int .u64 0, .int .u64 0] 160)).setRow w2.heap.size (U64 ws).toArray).cell? ⟨w.heap.size, 7, none⟩ = some (.int .u64 l7) := by simpa using hX.u64 7 (by simp)
  obtain ⟨X, hXe⟩ : ∃ X, X = ((w2.alloc (.cells #[.int .u64 0, .int .u64 0, .int .u64 0, .int .u64 0, .int .u64 0, .int .u64 0, .int .u64 0, .int .u64 0, .int .u64 0, .int .u64 0, .int .u64 0, .int .u64 0, .int .u64 0, .int .u64 0, .int .u64 0, .int .u64 0, .int .u64 0, .int .u64 0, .int .u64 0, .int .u64 0, .int .u64 0, .int .u64 0, .int .u64 0, .int .u64 0, .int .u64 0, .int .u64 0, .int .u64 0, .int .u64 0, .int .u64 0, .int .u64 0, .int .u64 0, .int .u64 0, .int .u64 0, .int .u64 0, .int .u64 0, .int .u64 0, .int .u64 0, .int .u64 0, .int .u64 0, .int .u64 0, .int .u64 0, .int .u64 0, .int .u64 0, .int .u64 0, .int .u64 0, .int .u64 0, .int .u64 0, .int .u64 0, .int .u64 0, .int .u64 0, .int .u64 0, .int .u64 0, .int .u64 0, .int .u64 0, .int .u64 0, .int .u64 0, .int .u64 0, .int .u64 0, .int .u64 0, .int .u64 0, .int .u64 0, .int .u64 0, .int .u64 0, .int .u64 0, .int .u64 0, .int .u64 0, .int .u64 0, .int .u64 0, .int .u64 0, .int .u64 0, .int .u64 0, .int .u64 0, .int .u64 0, .int .u64 0, .int .u64 0, .int .u64 0, .int .u64 0, .int .u64 0, .int .u64 0, .int .u64 0] 160)).setRow w2.heap.size (U64 ws).toArray) := ⟨_, rfl⟩
  rw [← hXe] at c0 c1 c2 c3 c4 c5 c6 c7
  have hXd : (w2.alloc (.cells (U64 Z80).toArray 160)).setRow w2.heap.size (U64 ws).toArray = X := hXe.symm
  rw [hXd] at hX2 hX4 hX5 hXb
  have HXE : Hid _ := hXe
  clear hX hXd hXe
  go_wp2_with (first
    | (refine wpList_store_row rfl 160 _ _ rfl w2.heap.size (U64 ws).toArray rfl rfl 160 _ hZ hsz80 (by simp [hwl]) (by simp [Value.oneCell']) ?_
       rw [← HXE.out]))
  have hG := hX5.lt
  have BD0 : BdW w (X.alloc (.cells (U64 [l0, l1, l2, l3, l4, l5, l6, l7]).toArray 100)) w2.heap.size X.heap.size hs ws (rndw ws KW hs 0) :=
    ⟨hX2.alloc _, hX4.alloc _, hX5.alloc _, by rw [show rndw ws KW hs 0 = [l0, l1, l2, l3, l4, l5, l6, l7] from HHS.out]; exact Arr.new _ _ _, hXb.alloc hXb.size _, hsz2, hG⟩
  clear c0 c1 c2 c3 c4 c5 c6 c7 hX2 hX4 hX5 hXb HXE hZ h2 h4 hb hz80 hsz80
  obtain ⟨G, hGe⟩ : ∃ G, G = X.heap.size := ⟨_, rfl⟩
  obtain ⟨P, hPe⟩ : ∃ P, P = w2.heap.size := ⟨_, rfl⟩
  rw [← hGe, ← hPe] at BD0 ⊢
  clear hGe hPe hG hsz2
  go_loopw [7] (fun i wr' => ∃ k : Nat, k ≤ 80 ∧ i = .int .i64 k ∧ BdW w wr' P G hs ws (rndw ws KW hs k)) (fun i _ => 80 - (intOf i).toNat)
  case atStart => exact ⟨0, by omega, rfl, BD0⟩
  case round =>
    clear BD0
    obtain ⟨k, hk, rfl, BD⟩ := hrel
    by_cases hlt : k < 80
    · obtain ⟨x, hxx⟩ : ∃ x, x = ws.getD k 0 := ⟨_, rfl⟩
      obtain ⟨y, hyy⟩ : ∃ y, y = KW.getD k 0 := ⟨_, rfl⟩
      have hr : rndw ws KW hs (k + 1) = stpw (rndw ws KW hs k) (x + y) := by rw [hxx, hyy]; rfl
      have h8 := rndw_len ws KW hl k
      obtain ⟨a0, a1, a2, a3, a4, a5, a6, a7, h8e⟩ := list8 h8
      have hr' : rndw ws KW hs (k + 1) = stpw8 a0 a1 a2 a3 a4 a5 a6 a7 (x + y) := by rw [hr, h8e]; rfl
      rw [h8e] at BD
      have HR : Hid _ := hr'
      have HX : Hid _ := hxx
      have HYY : Hid _ := hyy
      clear hr hr' h8 h8e hxx hyy
      obtain ⟨d0, d1, d2, d3, d4, d5, d6, d7, dx⟩ := BD.cells k (by omega)
      rw [← HX.out] at dx
      have hk0 : (0 : Int) ≤ (k : Int) := by omega
      have hk64 : (k : Int) < 80 := by omega
      have hsg : IntKind.u64.signed = false := rfl
      go_wp2
      go_quiet (first | (go_at_call_of 143 (Value.int IntKind.i64 41); refine Calls.quiet_of (specTurnW a4 41 (by omega) (by omega) _ rfl _)) | (go_at_call_of 143 (Value.int IntKind.i64 18); refine Calls.quiet_of (specTurnW a4 18 (by omega) (by omega) _ rfl _)) | (go_at_call_of 143 (Value.int IntKind.i64 14); refine Calls.quiet_of (specTurnW a4 14 (by omega) (by omega) _ rfl _)))
      have eS : bits .xor .u64 (bits .xor .u64 (rotw a4 14) (rotw a4 18)) (rotw a4 41) = cS1 a4 := rfl
      rw [eS]
      go_wp2
      have eC : bits .xor .u64 (bits .and .u64 a4 a5) (bits .and .u64 (bits .xor .u64 IntKind.u64.max a4) a6) = chow a4 a5 a6 := rfl
      rw [eC]
      clear eS eC
      have hkw : k < ws.length := by omega
      have BDr : BdW w (wr.drewN nq).drew P G hs ws [a0, a1, a2, a3, a4, a5, a6, a7] := BD.go (bel_drewN wr (nq + 1))
      clear BD d0 d1 d2 d3 d4 d5 d6 d7 dx
      go_region_held3 (fun W => W.cell? ⟨G, 7, none⟩ = some (.int .u64 a7) ∧ W.cell? ⟨P, k, none⟩ = some (.int .u64 x)) (exact BDr.two hkw HX.out)
        ((go_at_call 144; refine (specRoundW k hlt _).mono ?_; rintro e w2 ⟨rfl, hb2⟩; rw [← HYY.out]; replace BDr := BDr.go hb2))
      obtain ⟨T, hT⟩ : ∃ T, T = IntKind.u64.wrap (IntKind.u64.wrap (IntKind.u64.wrap (IntKind.u64.wrap (a7 + cS1 a4) + chow a4 a5 a6) + y) + x) := ⟨_, rfl⟩
      rw [← hT]
      have HT : Hid _ := hT
      clear hT
      obtain ⟨d0, d1, d2, d3, d4, d5, d6, d7, dx⟩ := BDr.cells k hkw
      clear dx
      go_wp2
      go_quiet (first | (go_at_call_of 143 (Value.int IntKind.i64 39); refine Calls.quiet_of (specTurnW a0 39 (by omega) (by omega) _ rfl _)) | (go_at_call_of 143 (Value.int IntKind.i64 34); refine Calls.quiet_of (specTurnW a0 34 (by omega) (by omega) _ rfl _)) | (go_at_call_of 143 (Value.int IntKind.i64 28); refine Calls.quiet_of (specTurnW a0 28 (by omega) (by omega) _ rfl _)))
      have eS : bits .xor .u64 (bits .xor .u64 (rotw a0 28) (rotw a0 34)) (rotw a0 39) = cS0 a0 := rfl
      rw [eS]
      clear eS
      have f0 := BDr.a12.frozen
      go_wp2
      have hst : stpw8 a0 a1 a2 a3 a4 a5 a6 a7 (x + y) = [IntKind.u64.wrap (IntKind.u64.wrap (T + cS0 a0) + majw a0 a1 a2), a0, a1, a2, IntKind.u64.wrap (a3 + T), a4, a5, a6] := by
        have hT := HT.out
        simp only [wrap_u64] at hT ⊢
        unfold stpw8
        rw [show (a7 + cS1 a4 + chow a4 a5 a6 + (x + y) + (cS0 a0 + majw a0 a1 a2)) % 18446744073709551616 = ((T + cS0 a0) % 18446744073709551616 + majw a0 a1 a2) % 18446744073709551616 by omega, show (a3 + (a7 + cS1 a4 + chow a4 a5 a6 + (x + y))) % 18446744073709551616 = (a3 + T) % 18446744073709551616 by omega]
      have BD2 := (BDr.go (bel_drewN w2 nq)).set8 (IntKind.u64.wrap (IntKind.u64.wrap (T + cS0 a0) + majw a0 a1 a2)) a0 a1 a2 (IntKind.u64.wrap (a3 + T)) a4 a5 a6
      rw [← hst, ← HR.out] at BD2
      clear hst HT HR
      refine ⟨⟨k + 1, by omega, by go_num, BD2⟩, ?_⟩
      simp [intOf]
      omega
    · have hkn : k = 80 := by omega
      subst hkn
      have hst := rndw_len ws KW hl 80
      obtain ⟨st, hste⟩ : ∃ st, st = rndw ws KW hs 80 := ⟨_, rfl⟩
      rw [← hste] at hst BD
      have HK2 : Hid (blkw hs xs = zlw hs st 8) := by unfold Hid; rw [HK.out, hste]
      clear hste HK
      have h2 : Arr wr w.heap.size 100 (U64 (zlw hs st 0)) := by
        have : zlw hs st 0 = hs := by simp [zlw]
        rw [this]; exact BD.a2
      have h4 := BD.a4
      have h12 := BD.a12
      have hb := BD.fr
      have hge := BD.ge
      have hgg := BD.gg
      clear BD
      go_wp2
      go_loopw [13] (fun i wr' => ∃ k : Nat, k ≤ 8 ∧ i = .int .i64 k ∧ Arr wr' w.heap.size 100 (U64 (zlw hs st k)) ∧ Arr wr' (w.heap.size + 1) 100 (U64 Z8W) ∧ Arr wr' G 100 (U64 st) ∧ Below w.heap.size w wr') (fun i _ => 8 - (intOf i).toNat)
      case atStart => exact ⟨0, by omega, rfl, h2, h4, h12, hb⟩
      case round =>
        clear h2 h4 h12 hb
        obtain ⟨k, hk, rfl, h2, h4, h12, hb⟩ := hrel
        by_cases hlt : k < 8
        · obtain ⟨x, hxx⟩ : ∃ x, x = st.getD k 0 := ⟨_, rfl⟩
          obtain ⟨y, hyy⟩ : ∃ y, y = hs.getD k 0 := ⟨_, rfl⟩
          have hcx := h12.u64 k (by omega)
          rw [← hxx] at hcx
          have hck := h2.u64 k (by rw [zlw_len hs st hl hst k hk]; omega)
          rw [zlw_get hs st hl hst k hlt, ← hyy] at hck
          have hfz := h2.frozen k
          have h2' := h2.set k (.int .u64 ((y + x) % 18446744073709551616))
          rw [zlw_set hs st hl hst k hlt _ (by rw [hxx, hyy])] at h2'
          have H2 : Hid (Arr (wr.setCell ⟨w.heap.size, k, none⟩ (.int .u64 ((y + x) % 18446744073709551616))).drew w.heap.size 100 (U64 (zlw hs st (k + 1)))) := h2'
          have H4 : Hid (Arr (wr.setCell ⟨w.heap.size, k, none⟩ (.int .u64 ((y + x) % 18446744073709551616))).drew (w.heap.size + 1) 100 (U64 Z8W)) := h4.other ⟨w.heap.size, k, none⟩ (.int .u64 ((y + x) % 18446744073709551616)) (by simp)
          have H12 : Hid (Arr (wr.setCell ⟨w.heap.size, k, none⟩ (.int .u64 ((y + x) % 18446744073709551616))).drew G 100 (U64 st)) := h12.other ⟨w.heap.size, k, none⟩ (.int .u64 ((y + x) % 18446744073709551616)) (by show G ≠ w.heap.size; omega)
          have HB : Hid _ := (hb.setCell (p := ⟨w.heap.size, k, none⟩) (Nat.le_refl _) (.int .u64 ((y + x) % 18446744073709551616))).drew
          have hwr : IntKind.u64.wrap (y + x) = (y + x) % 18446744073709551616 := wrap_u64 _
          clear h2' h2 h4 h12 hb hxx hyy
          have hk8 : (k : Int) < 8 := by omega
          have hk0 : (0 : Int) ≤ (k : Int) := by omega
          go_wp2
          go_region
          go_wp2
          go_roundw
          case rel => exact ⟨k + 1, by omega, by go_num, H2.out, H4.out, H12.out, HB.out⟩
          case measure => simp [intOf]; omega
        · have hkn : k = 8 := by omega
          subst hkn
          have hzl := zlw_len hs st hl hst 8 (by omega)
          obtain ⟨z, hze⟩ : ∃ z, z = zlw hs st 8 := ⟨_, rfl⟩
          rw [← hze] at h2 hzl
          have HZ : Hid (blkw hs xs = z) := by unfold Hid; rw [HK2.out, hze]
          clear hze HK2 hst
          have h4' := h4.row (U64 z)
          have hb' := setRow_below hb (w.heap.size + 1) (U64 z).toArray (by omega)
          have hsz : (Tryz.prog.info? 100).map (·.size) = some (U64 z).toArray.size := by simpa [hzl] using Tryz.infoH8
          go_wp2_with (first
            | (refine wpList_load_row rfl 100 _ rfl w.heap.size rfl 100 (U64 z).toArray (0, 0) _ h2 Tryz.underlying100 rfl hsz ?_)
            | (refine wpList_store_row rfl 100 _ _ rfl (w.heap.size + 1) (U64 z).toArray rfl rfl 100 _ h4 hsz (by simp [hzl]) (by simp [Value.oneCell']) ?_))
          exact bodyPost_ret (results_cell_row rfl _ _ (w.heap.size + 1) 100 (U64 z).toArray (0, 0) _ rfl h4' Tryz.underlying100 rfl hsz) rfl ⟨by rw [HZ.out], hb'⟩
def lenAt (N : Int) (k : Nat) : Int := 8 * N / 2 ^ (56 - 8 * k) % 256
def lenB (N : Int) (k : Nat) : List Int := (List.range k).map (lenAt N)
theorem lenB_succ (N : Int) (k : Nat) : lenB N (k + 1) = lenB N k ++ [lenAt N k] := by simp [lenB, List.range_succ]
theorem lenAt_byte (N : Int) (k : Nat) : 0 ≤ lenAt N k ∧ lenAt N k < 256 := by unfold lenAt; omega
end Go.Proofs.YtihoaakbkffejaaGreatDoor

/-
  What is proved here: the contract of the program's shaPadded at words of 64 bits: the tail, the; the contract of the program's shaSum at words of 64 bits: the words go; the contract of the program's Sha512 at every slice of bytes; what the program's variables hold, as one fact; the contract of the program's PtNeg.
-/
import Derived.Test.YtihoaakbkffejaaGreatDoorFOhy
import Derived.Test.YtihoaakbkffejaaGreatDoorFGkw
import Derived.Test.YtihoaakbkffejaaGreatDoorFWw
import Derived.Test.YtihoaakbkffejaaGreatDoorFWy
import Derived.Test.YtihoaakbkffejaaGreatDoorFJrd
import Derived.Test.YtihoaakbkffejaaGreatDoorFOha
import Derived.Test.YtihoaakbkffejaaGreatDoorFUff
import Derived.Test.YtihoaakbkffejaaGreatDoorFJio
import Derived.Test.YtihoaakbkffejaaGreatDoorFOm0
namespace Go.Proofs.YtihoaakbkffejaaGreatDoor
open Go.RowKit
set_option maxRecDepth 100000

def zfw (n : Nat) : Nat := (239 - n % 128) % 128
theorem zfw_lt (n : Nat) : zfw n < 128 := Nat.mod_lt _ (by omega)
theorem zfw_is (n : Nat) : (n + 1 + zfw n) % 128 = 112 := by unfold zfw; omega
theorem zfw_no (n k : Nat) (h : k < zfw n) : (n + 1 + k) % 128 ≠ 112 := by unfold zfw at h; omega
def pdw (n : Nat) (N : Int) : List Int := 128 :: (List.replicate (zfw n) 0 ++ hbk (8 * N) 16 16)
theorem pdw_len (n : Nat) (N : Int) : (pdw n N).length = zfw n + 17 := by simp [pdw, hbk_len]
theorem pdw_byte (n : Nat) (N : Int) : ∀ x ∈ pdw n N, 0 ≤ x ∧ x < 256 := by
 intro x hx
 simp only [pdw, List.mem_cons, List.mem_append, List.mem_replicate] at hx
 rcases hx with rfl | ⟨_, rfl⟩ | h
 ·omega
 ·omega
 ·exact hbk_byte _ _ _ x h

set_option maxHeartbeats 1000000 in
theorem paddedCw (a : Option Addr) (n c : Nat) (ts : List Int) (N : Int) (w : World) (hT : Bs w a n c ts) (h0 : 0 ≤ N) (h1 : N ≤ 20000) (hn : n ≤ 20000) :
  Calls Tryz.prog 108 #[.slice a n c, .int .i64 N] w fun e w' => ∃ v, e = .returned v ∧ w'.ownsRow w.heap.size 5 1 v (n + (zfw n + 17)) (U8 (ts ++ pdw n N)) ∧ Below w.heap.size w w' := by
 have hzl := zfw_lt n
 have hzn := zfw_is n
 have HZ : Hid _ := zfw_no n
 obtain ⟨z, hz⟩ : ∃ z, z = zfw n := ⟨_, rfl⟩
 rw [← hz] at hzl hzn HZ
 have HZN : Hid _ := hz
 clear hz
 go_enter Tryz.func108, Tryz.ntmps108
 go_wp2_with (go_at_call 110; refine (wordBytesw _).mono ?_; rintro e w' ⟨rfl, hw'⟩; rw [hw']; clear hw' w')
 refine (cloneB a n c ts _ hT (by omega)).mono ?_
 rintro e w1 ⟨v1, rfl, ho1, hb1⟩
 go_wp2_with (at_builtin; refine wpl_append_bs rfl _ _ rfl w.heap.size _ n ts rfl (some ⟨w1.heap.size, 0, none⟩) 1 1 [128] rfl (ho1.alloc _) ?_ ?_ ?_ ?_)
 ·exact Bs.one _ _ (by omega) (by omega)
 ·omega
 ·have := hb1.size; first | omega | (simp; omega)
 intro v2 w2 ho2 hg2 _
 have hb2 := below_app hb1 hb1.size ho1 hg2
 clear ho1 hg2 hb1
 go_wp2
 have hby : ∀ k, ∀ x ∈ ts ++ 128 :: List.replicate k (0 : Int), 0 ≤ x ∧ x < 256 := by
  intro k x hx
  simp only [List.mem_append, List.mem_cons, List.mem_replicate] at hx
  rcases hx with h | rfl | ⟨_, rfl⟩
  ·exact hT.2.2.2.1 x h
  ·omega
  ·omega
 have HBY : Hid _ := hby
 clear hby
 go_loopw [7] (fun v wr => ∃ k m : Nat, m = n + 1 + k ∧ k ≤ z ∧ wr.ownsRow w.heap.size 5 1 v m (U8 (ts ++ 128 :: List.replicate k 0)) ∧ Below w.heap.size w wr) (fun v _ => match v with | .slice _ m _ => n + 1 + z - m | _ => 0)
 case atStart => exact ⟨0, n + 1, rfl, by omega, by simpa using ho2, hb2⟩
 case round =>
  clear ho2 hb2
  obtain ⟨k, m, hm, hk, ho, hb⟩ := hrel
  obtain ⟨a3, c3, rfl, _, _⟩ := Bs.own ho (HBY.out k)
  have hsz := hb.size
  have HM : Hid _ := hm
  by_cases hkz : k < z
  ·have hne := HZ.out k hkz
   have hr : ¬ ((m : Int) % 128 = 112) := by rw [hm]; omega
   clear hne
   have hm128 : m ≤ 30000 := by omega
   clear hm
   go_wp2_with (at_builtin; refine wpl_append_bs rfl _ _ rfl w.heap.size _ m (ts ++ 128 :: List.replicate k 0) rfl (some ⟨wr.heap.size, 0, none⟩) 1 1 [0] rfl (ho.alloc _) ?_ ?_ ?_ ?_)
   ·exact Bs.one _ _ (by omega) (by omega)
   ·omega
   ·first | omega | (simp; omega)
   intro v' w' h1 h2 _
   have hb2 := below_app hb (by omega) ho h2
   have HR : Hid (w'.ownsRow w.heap.size 5 1 v' (m + 1) (U8 (ts ++ 128 :: List.replicate (k + 1) 0))) := by
    unfold Hid
    rw [List.replicate_succ']; simpa using h1
   clear h1 h2 ho hb
   go_wp2
   go_roundw
   case rel => exact ⟨k + 1, m + 1, by have := HM.out; omega, by omega, HR.out, hb2⟩
   case measure =>
    obtain ⟨a4, c4, rfl, _, _⟩ := Bs.own HR.out (HBY.out (k + 1))
    have := HM.out
    simp
    omega
  ·obtain rfl : k = z := by omega
   have hr : (m : Int) % 128 = 112 := by rw [hm]; omega
   have hm128 : m ≤ 30000 := by omega
   clear hm
   have hN8 : IntKind.i64.wrap (8 * N) = 8 * N := by rw [IntKind.wrap_i64]; omega
   have hN9 : IntKind.u64.wrap (8 * N) = 8 * N := by simp [IntKind.wrap, IntKind.signed, IntKind.bits]; omega
   have hH := highFirst w.heap.size m _ (ts ++ 128 :: List.replicate k 0) (8 * N) 16 wr ho hsz (by omega) (by omega) (by omega) (by omega)
   have hlen : n + (zfw n + 17) = m + 16 := by rw [← HZN.out]; have := HM.out; omega
   have HL : Hid _ := hlen
   have hpad : (ts ++ 128 :: List.replicate k 0) ++ hbk (8 * N) 16 16 = ts ++ pdw n N := by unfold pdw; rw [← HZN.out]; simp
   have HP : Hid _ := hpad
   clear hlen hpad
   go_wp2_with fail
   refine hH.mono ?_
   rintro e w3 ⟨v3, rfl, ho3, hb3⟩
   go_wp2
   go_ret
   refine ⟨_, rfl, ?_, hb.trans hb3⟩
   rw [HL.out, ← HP.out]
   exact ho3
theorem hbw (x : Int) : hbk x 8 8 = b8 x 8 := by
  unfold hbk b8; apply List.map_congr_left; intro j hj; rw [show 8 * (8 - 1 - j) = 56 - 8 * j by have := List.mem_range.1 hj; omega]

structure Sgw (w W : World) (rb : Nat) (st : List Int) : Prop where
  fr : Below w.heap.size w W
  ar : Arr W w.heap.size 101 (U64 st)
  ru : Arr W (w.heap.size + 1) 106 [.int .i64 28, .int .i64 34, .int .i64 39, .int .i64 14, .int .i64 18, .int .i64 41, .int .i64 1, .int .i64 8, .int .i64 7, .int .i64 19, .int .i64 61, .int .i64 6, .slice (some ⟨rb, 0, none⟩) 80 80]
  rb : Arr W rb 160 (U64 KW)
theorem Sgw.all {w W : World} {rb : Nat} {st : List Int} (h : Sgw w W rb st) : W.cell? ⟨w.heap.size + 1, 0, none⟩ = some (.int .i64 28) ∧ W.cell? ⟨w.heap.size + 1, 1, none⟩ = some (.int .i64 34) ∧ W.cell? ⟨w.heap.size + 1, 2, none⟩ = some (.int .i64 39) ∧ W.cell? ⟨w.heap.size + 1, 3, none⟩ = some (.int .i64 14) ∧ W.cell? ⟨w.heap.size + 1, 4, none⟩ = some (.int .i64 18) ∧ W.cell? ⟨w.heap.size + 1, 5, none⟩ = some (.int .i64 41) ∧ W.cell? ⟨w.heap.size + 1, 6, none⟩ = some (.int .i64 1) ∧ W.cell? ⟨w.heap.size + 1, 7, none⟩ = some (.int .i64 8) ∧ W.cell? ⟨w.heap.size + 1, 8, none⟩ = some (.int .i64 7) ∧ W.cell? ⟨w.heap.size + 1, 9, none⟩ = some (.int .i64 19) ∧ W.cell? ⟨w.heap.size + 1, 10, none⟩ = some (.int .i64 61) ∧ W.cell? ⟨w.heap.size + 1, 11, none⟩ = some (.int .i64 6) ∧ W.cell? ⟨w.heap.size + 1, 12, none⟩ = some (.slice (some ⟨rb, 0, none⟩) 80 80) :=
  ⟨h.ru.cell 0, h.ru.cell 1, h.ru.cell 2, h.ru.cell 3, h.ru.cell 4, h.ru.cell 5, h.ru.cell 6, h.ru.cell 7, h.ru.cell 8, h.ru.cell 9, h.ru.cell 10, h.ru.cell 11, h.ru.cell 12⟩
theorem Sgw.go {w A B : World} {rb : Nat} {st : List Int} (h : Sgw w A rb st) (hb : Below A.heap.size A B) : Sgw w B rb st :=
  ⟨h.fr.trans (hb.mono h.fr.size), h.ar.kept hb, h.ru.kept hb, h.rb.kept hb⟩
theorem Sgw.turn {w A B : World} {rb : Nat} {st st' : List Int} (h : Sgw w A rb st) (hg : A.grownBy B (some w.heap.size)) (ha : Arr B w.heap.size 101 (U64 st')) (hr : rb < w.heap.size) : Sgw w B rb st' :=
  ⟨h.fr.grown hg h.fr.size (fun j e => by cases e; exact Nat.le_refl _), ha, (hg.block _ h.ru.lt (fun e => by injection e with e; omega)).trans h.ru, (hg.block _ h.rb.lt (fun e => by injection e with e; omega)).trans h.rb⟩

set_option maxHeartbeats 2000000 in
theorem sumCw (hs : List Int) (a : Option Addr) (n c rb : Nat) (ts : List Int) (N : Int) (w : World) (hl : hs.length = 8) (hw : ∀ x ∈ hs, 0 ≤ x ∧ x < 18446744073709551616) (hT : Bs w a n c ts) (h0 : 0 ≤ N) (h1 : N ≤ 20000) (hn : n ≤ 20000) (hrb : Arr w rb 160 (U64 KW)) :
    Calls Tryz.prog 62 #[.agg (U64 hs).toArray, .slice a n c, .int .i64 N, rulesVw rb] w fun e w' => ∃ v, e = .returned v ∧ w'.ownsRow w.heap.size 5 1 v 64 (U8 (sumW (fldw hs (ts ++ pdw n N) ((n + (zfw n + 17)) / 128)))) ∧ Below w.heap.size w w' := by
  have hrl := hrb.lt
  obtain ⟨W, hW⟩ : ∃ W, W = (w.alloc (.cells (U64 hs).toArray 101)).alloc (.cells #[.int .i64 28, .int .i64 34, .int .i64 39, .int .i64 14, .int .i64 18, .int .i64 41, .int .i64 1, .int .i64 8, .int .i64 7, .int .i64 19, .int .i64 61, .int .i64 6, .slice (some ⟨rb, 0, none⟩) 80 80] 106) := ⟨_, rfl⟩
  have hB : Below w.heap.size w W := by rw [hW]; exact ((Below.refl _ _).alloc (Nat.le_refl _) _).alloc (by simp) _
  have SG : Sgw w W rb hs := by
    refine ⟨hB, ?_, ?_, hrb.kept hB⟩
    · rw [hW]; exact (Arr.new w (U64 hs) _).alloc _
    · rw [hW]
      have := Arr.new (w.alloc (.cells (U64 hs).toArray 101)) [.int .i64 28, .int .i64 34, .int .i64 39, .int .i64 14, .int .i64 18, .int .i64 41, .int .i64 1, .int .i64 8, .int .i64 7, .int .i64 19, .int .i64 61, .int .i64 6, .slice (some ⟨rb, 0, none⟩) 80 80] 106
      rw [World.size_alloc] at this
      exact this
  have hT1 := hT.below hB
  obtain ⟨l0, l1, l2, l3, l4, l5, l6, l7, hhs⟩ := list8 hl
  rw [hhs, show (U64 [l0, l1, l2, l3, l4, l5, l6, l7]).toArray = #[.int .u64 l0, .int .u64 l1, .int .u64 l2, .int .u64 l3, .int .u64 l4, .int .u64 l5, .int .u64 l6, .int .u64 l7] from rfl] at hW
  have SGd : Sgw w W.drew rb hs := SG.go (Below.refl _ _).drew
  have hWs : w.heap.size < W.drew.heap.size := SGd.ar.lt
  have hTd : Bs W.drew a n c ts := hT1.below (Below.refl _ _).drew
  obtain ⟨L, hL⟩ : ∃ L, L = ts ++ pdw n N := ⟨_, rfl⟩
  have hLl : L.length = n + (zfw n + 17) := by rw [hL]; simp [pdw_len, hT.2.1]
  have hLb : ∀ x ∈ L, 0 ≤ x ∧ x < 256 := by
    rw [hL]
    intro x hx
    rcases List.mem_append.1 hx with h | h
    · exact hT.2.2.2.1 x h
    · exact pdw_byte n N x h
  obtain ⟨q, hq⟩ : ∃ q, q = n + (zfw n + 17) := ⟨_, rfl⟩
  have HP : Hid (∀ Z, Bs Z a n c ts → Calls Tryz.prog 108 #[.slice a n c, .int .i64 N] Z fun e w' => ∃ v, e = .returned v ∧ w'.ownsRow Z.heap.size 5 1 v q (U8 L) ∧ Below Z.heap.size Z w') := by
    unfold Hid
    intro Z hz
    rw [hL, hq]
    exact paddedCw a n c ts N Z hz h0 h1 hn
  rw [← hq] at hLl
  have HQ : Hid _ := hq
  have HL : Hid _ := hL
  have HHS : Hid _ := hhs
  have HLB : Hid _ := hLb
  clear hq hL hLb SG hT1 hT hB
  rw [← HL.out, ← HQ.out]
  go_enter Tryz.func62, Tryz.ntmps62
  rw [show (Value.agg (U64 hs).toArray) = Value.agg #[.int .u64 l0, .int .u64 l1, .int .u64 l2, .int .u64 l3, .int .u64 l4, .int .u64 l5, .int .u64 l6, .int .u64 l7] by rw [HHS.out]; rfl]
  clear hhs
  go_wp2
  rw [← hW]
  clear hW
  go_region_held3 (fun W => W.cell? ⟨w.heap.size + 1, 0, none⟩ = some (.int .i64 28) ∧ W.cell? ⟨w.heap.size + 1, 1, none⟩ = some (.int .i64 34) ∧ W.cell? ⟨w.heap.size + 1, 2, none⟩ = some (.int .i64 39) ∧ W.cell? ⟨w.heap.size + 1, 3, none⟩ = some (.int .i64 14) ∧ W.cell? ⟨w.heap.size + 1, 4, none⟩ = some (.int .i64 18) ∧ W.cell? ⟨w.heap.size + 1, 5, none⟩ = some (.int .i64 41) ∧ W.cell? ⟨w.heap.size + 1, 6, none⟩ = some (.int .i64 1) ∧ W.cell? ⟨w.heap.size + 1, 7, none⟩ = some (.int .i64 8) ∧ W.cell? ⟨w.heap.size + 1, 8, none⟩ = some (.int .i64 7) ∧ W.cell? ⟨w.heap.size + 1, 9, none⟩ = some (.int .i64 19) ∧ W.cell? ⟨w.heap.size + 1, 10, none⟩ = some (.int .i64 61) ∧ W.cell? ⟨w.heap.size + 1, 11, none⟩ = some (.int .i64 6) ∧ W.cell? ⟨w.heap.size + 1, 12, none⟩ = some (.slice (some ⟨rb, 0, none⟩) 80 80))
    (exact SGd.all)
    ((first
      | (go_at_call 108; refine (HP.out _ hTd).mono ?_; rintro e w2 ⟨v2, rfl, ho2, hb2⟩; replace SGd := SGd.go hb2; obtain ⟨a2, c2, rfl, _, hx2⟩ := Bs.own ho2 HLB.out; have hoff := off_of_own ho2 hWs)
      | (go_at_call 107; refine (takeBlocksCw w.heap.size hs a2 q c2 rb L _ SGd.ar hl hx2 hoff SGd.rb (by omega)).mono ?_; rintro e w3 ⟨a3, c3, rfl, _, _, hA3, hg3⟩; replace SGd := SGd.turn hg3 hA3 hrl)))
  obtain ⟨st, hst⟩ : ∃ st, st = fldw hs L (q / 128) := ⟨_, rfl⟩
  have hstl : st.length = 8 := by rw [hst]; exact fldw_len hl _ _
  have hstw : ∀ x ∈ st, 0 ≤ x ∧ x < 18446744073709551616 := by rw [hst]; exact fldw_word hw _ _
  have SG3 : Sgw w w3 rb st := by rw [hst]; exact SGd
  have HST : Hid _ := hst
  have hsz3 := SG3.ru.lt
  have hsz : (Tryz.prog.info? 101).map (·.size) = some 8 := by kernel_rfl
  have hSA := SG3.ar
  have hb3 := SG3.fr
  clear hst SGd hw hl hx2 ho2 hb2 hA3 hg3 hTd SG3 HP HLB
  go_wp2_with (refine wpList_load_row rfl 101 _ rfl w.heap.size rfl 101 (U64 st).toArray (0, 0) _ hSA Tryz.underlying101 rfl (by simpa [hstl] using hsz) ?_)
  go_loopw [9, 18] (fun v i wr => ∃ k m : Nat, m = 8 * k ∧ k ≤ 8 ∧ i = .int .i64 k ∧ wr.ownsRow w3.heap.size 5 1 v m (U8 (sumW (st.take k))) ∧ Below w3.heap.size w3 wr) (fun _ i _ => 8 - (intOf i).toNat)
  case atStart => exact ⟨0, 0, rfl, by omega, rfl, by simpa [sumW] using World.ownsRow_nil _ _ _ _, Below.refl _ _⟩
  case round =>
    obtain ⟨k, m, hm, hk, rfl, hown, hb⟩ := hrel
    by_cases hlt : k < 8
    · have ix := fun w => index_arr Tryz.underlying101 Tryz.underlying99 infoCw st hstl k hlt w
      obtain ⟨x, hx⟩ : ∃ x, x = st.getD k 0 := ⟨_, rfl⟩
      rw [← hx] at ix
      obtain ⟨hx0, hx1⟩ : 0 ≤ x ∧ x < 18446744073709551616 := by rw [hx]; exact hstw _ (getD_memW (by omega))
      have hsn := tksnw st k (by omega)
      rw [← hx] at hsn
      have HN : Hid (sumW (st.take (k + 1)) = sumW (st.take k) ++ hbk x 8 8) := by unfold Hid; rw [hbw]; exact sumW_snoc hsn
      have HM : Hid _ := hm
      have hm60 : m ≤ 100 := by omega
      clear hx hsn hm
      have hk8 : (k : Int) < 8 := by omega
      have hcv : IntKind.u64.wrap x = x := by simp [IntKind.wrap, IntKind.signed, IntKind.bits]; omega
      have hws := hb.size
      have hH := highFirst w3.heap.size m _ (sumW (st.take k)) x 8 wr hown hws (by omega) (by omega) hx0 (by omega)
      go_wp2_with (go_at_call 110; refine (wordBytesw _).mono ?_; rintro e w' ⟨rfl, hw'⟩; rw [hw']; clear hw' w')
      refine hH.mono ?_
      rintro e w4 ⟨v4, rfl, ho4, hb4⟩
      have hb5 := hb.trans hb4
      have HR : Hid (w4.ownsRow w3.heap.size 5 1 v4 (m + 8) (U8 (sumW (st.take (k + 1))))) := by unfold Hid; rw [HN.out]; exact ho4
      clear hH ho4 hb4 hown hb HN
      go_wp2
      go_roundw
      case rel => exact ⟨k + 1, m + 8, by have := HM.out; omega, by omega, by go_num, HR.out, hb5⟩
      case measure => simp [intOf]; omega
    · obtain rfl : k = 8 := by omega
      obtain rfl : m = 64 := hm
      rw [List.take_of_length_le (show st.length ≤ 8 by omega), HST.out] at hown
      go_wp2
      go_ret
      exact ⟨_, rfl, own_base hown (by omega), hb3.trans (hb.mono (by omega))⟩
theorem hbk_wide (n : Nat) (hn : n ≤ 20000) : hbk (8 * (n : Int)) 16 16 = List.replicate 8 0 ++ lenB (n : Int) 8 := by
  have e : ∀ j, j < 8 → (8 * (n : Int)) / 2 ^ (8 * (16 - 1 - j)) % 256 = 0 := by
    intro j hj
    have h : (8 * (n : Int)) / 2 ^ (8 * (16 - 1 - j)) = 0 := by
      refine Int.ediv_eq_zero_of_lt (by omega) ?_
      obtain ⟨d, hd⟩ : ∃ d, 8 * (16 - 1 - j) = 64 + d := ⟨8 * (16 - 1 - j) - 64, by omega⟩
      rw [hd, Int.pow_add]
      have : (1 : Int) ≤ 2 ^ d := Int.pow_pos (by omega)
      have h64 : (2 : Int) ^ 64 = 18446744073709551616 := by decide
      rw [h64]
      omega
    rw [h]; rfl
  have r16 : List.range 16 = List.range 8 ++ (List.range 8).map (8 + ·) := by decide
  unfold hbk lenB
  rw [r16, List.map_append, List.map_map]
  congr 1
  rw [List.eq_replicate_iff]
  refine ⟨by simp, fun y hy => ?_⟩
  obtain ⟨j, hj, rfl⟩ := List.mem_map.1 hy
  exact e j (List.mem_range.1 hj)
theorem pdw_pad (n : Nat) (hn : n ≤ 20000) : pdw n (n : Int) = padW n := by
  unfold pdw padW
  rw [hbk_wide n hn]
  rfl
theorem sum_wide {xs : List Int} {n : Nat} (hl : xs.length = n) (hn : n ≤ 20000) : sumW (fldw H0W (xs ++ pdw n (n : Int)) ((n + (zfw n + 17)) / 128)) = s512 xs := by
  unfold s512 sumOfW
  rw [if_pos (by omega), hl, pdw_pad n hn]
  have e : (xs ++ padW n).length = n + (zfw n + 17) := by
    rw [List.length_append, hl, padW_len]; rfl
  rw [e]

structure Fw (w W : World) : Prop where
  fr : Below w.heap.size w W
  tb : Tabw W
  ff : Vr W 3 (U64 H0W)
theorem Fw.go {w A B : World} (h : Fw w A) (hb : Below A.heap.size A B) : Fw w B := ⟨h.fr.trans (hb.mono h.fr.size), h.tb.kept hb, h.ff.kept hb⟩
theorem Fw.all {w W : World} (h : Fw w W) {l0 l1 l2 l3 l4 l5 l6 l7 : Int} (e : H0W = [l0, l1, l2, l3, l4, l5, l6, l7]) : W.cell? ⟨3, 0, none⟩ = some (.int .u64 l0) ∧ W.cell? ⟨3, 1, none⟩ = some (.int .u64 l1) ∧ W.cell? ⟨3, 2, none⟩ = some (.int .u64 l2) ∧ W.cell? ⟨3, 3, none⟩ = some (.int .u64 l3) ∧ W.cell? ⟨3, 4, none⟩ = some (.int .u64 l4) ∧ W.cell? ⟨3, 5, none⟩ = some (.int .u64 l5) ∧ W.cell? ⟨3, 6, none⟩ = some (.int .u64 l6) ∧ W.cell? ⟨3, 7, none⟩ = some (.int .u64 l7) := by
  have := h.ff
  rw [e] at this
  exact ⟨this.cell 0, this.cell 1, this.cell 2, this.cell 3, this.cell 4, this.cell 5, this.cell 6, this.cell 7⟩

set_option maxHeartbeats 2000000 in
theorem implSha512 (a : Option Addr) (n c : Nat) (bs : List Int) (w : World) (hB : Bs w a n c bs) (ht : Tabw w) (hf : Vr w 3 (U64 H0W)) :
    Calls Tryz.prog 18 #[.slice a n c] w fun e w' => ∃ v, e = .returned v ∧ w'.ownsRow w.heap.size 5 1 v (s512 bs).length (U8 (s512 bs)) ∧ Below w.heap.size w w' := by
  have hbl := hB.2.1
  by_cases hn : n ≤ 20000
  · have hn' : ¬ ((20000 : Int) < (n : Int)) := by omega
    have hsum := sum_wide hbl hn
    have hs64 : (s512 bs).length = 64 := by unfold s512; rw [if_pos (by omega)]; exact sumOfW_len bs
    rw [hs64, ← hsum]
    clear hs64 hsum hbl
    have FW : Fw w w.drew := ⟨(Below.refl _ _).drew, ht.kept (Below.refl _ _).drew, hf.kept (Below.refl _ _).drew⟩
    have hBd : Bs w.drew a n c bs := hB.below (Below.refl _ _).drew
    obtain ⟨l0, l1, l2, l3, l4, l5, l6, l7, hH⟩ : ∃ l0 l1 l2 l3 l4 l5 l6 l7, H0W = [l0, l1, l2, l3, l4, l5, l6, l7] := ⟨_, _, _, _, _, _, _, _, rfl⟩
    have HS : Hid (∀ rb Z, Bs Z a n c bs → Arr Z rb 160 (U64 KW) → Calls Tryz.prog 62 #[.agg #[.int .u64 l0, .int .u64 l1, .int .u64 l2, .int .u64 l3, .int .u64 l4, .int .u64 l5, .int .u64 l6, .int .u64 l7], .slice a n c, .int .i64 (n : Int), rulesVw rb] Z fun e w' => ∃ v, e = .returned v ∧ w'.ownsRow Z.heap.size 5 1 v 64 (U8 (sumW (fldw H0W (bs ++ pdw n (n : Int)) ((n + (zfw n + 17)) / 128)))) ∧ Below Z.heap.size Z w') := by
      unfold Hid
      intro rb Z hz hr
      have := sumCw H0W a n c rb bs (n : Int) Z H0W_len H0W_word hz (by omega) (by omega) hn hr
      rw [show (U64 H0W).toArray = #[.int .u64 l0, .int .u64 l1, .int .u64 l2, .int .u64 l3, .int .u64 l4, .int .u64 l5, .int .u64 l6, .int .u64 l7] by rw [hH]; rfl] at this
      exact this
    have HH : Hid _ := hH
    obtain ⟨S, hS⟩ : ∃ S, S = sumW (fldw H0W (bs ++ pdw n (n : Int)) ((n + (zfw n + 17)) / 128)) := ⟨_, rfl⟩
    rw [← hS]
    rw [← hS] at HS
    clear hS hH ht hf hB
    go_enter Tryz.func18, Tryz.ntmps18
    go_wp2
    go_region_held3 (fun W => W.cell? ⟨3, 0, none⟩ = some (.int .u64 l0) ∧ W.cell? ⟨3, 1, none⟩ = some (.int .u64 l1) ∧ W.cell? ⟨3, 2, none⟩ = some (.int .u64 l2) ∧ W.cell? ⟨3, 3, none⟩ = some (.int .u64 l3) ∧ W.cell? ⟨3, 4, none⟩ = some (.int .u64 l4) ∧ W.cell? ⟨3, 5, none⟩ = some (.int .u64 l5) ∧ W.cell? ⟨3, 6, none⟩ = some (.int .u64 l6) ∧ W.cell? ⟨3, 7, none⟩ = some (.int .u64 l7))
      (exact FW.all HH.out)
      ((first
        | (go_at_call 62; refine (HS.out rb _ hBd hrb).mono ?_; rintro e w3 ⟨v3, rfl, ho3, hb3⟩; replace FW := FW.go hb3)
        | (go_at_call 63; refine (rulesCw _ FW.tb).mono ?_; rintro e w2 ⟨rb, rfl, hrb, hge, hb2⟩; have hsz2 := hb2.size; replace FW := FW.go hb2; replace hBd := hBd.below hb2)))
    go_wp2
    go_ret
    exact ⟨_, rfl, own_base ho3 (by have h : w.drew.heap.size = w.heap.size := rfl; omega), FW.fr⟩
  · have hn' : (20000 : Int) < (n : Int) := by omega
    have hs0 : s512 bs = [] := by unfold s512; rw [if_neg (by omega)]
    rw [hs0]
    clear hs0 ht hf hB hbl
    go_enter Tryz.func18, Tryz.ntmps18
    go_wp2
    go_ret
    exact ⟨_, rfl, World.ownsRow_nil _ _ _ _, Below.refl _ _⟩
structure VarsOk (w : World) : Prop where
 P : Vr w 4 (I64 PL)
 D : Vr w 5 (I64 DL)
 O : Vr w 6 (I64 OL)
 X : Vr w 0 (I64 BX)
 Y : Vr w 1 (I64 BY)
 T : Tabw w
 F : Vr w 3 (U64 H0W)
theorem VarsOk.kept {w W : World} (h : VarsOk w) (b : Below w.heap.size w W) : VarsOk W := ⟨h.P.kept b, h.D.kept b, h.O.kept b, h.X.kept b, h.Y.kept b, h.T.kept b, h.F.kept b⟩

section
variable [NeZero pN]
structure PO (W : World) (B : Nat) (a : Option Addr) (c : Nat) (b : Option Addr) (d : Nat) (P : KF × KF) : Prop where
 x : W.ownsRow B 65 1 (.slice a 16 c) 16 (I64 (cx P.1))
 y : W.ownsRow B 65 1 (.slice b 16 d) 16 (I64 (cx P.2))
end
theorem PO.of {w W : World} {v : Value} {xs ys : List Int} {P : KF × KF} (h : PtT 65 w W v xs ys) (hx : xs = cx P.1) (hy : ys = cx P.2) : ∃ a c b d, v = .agg #[.slice a 16 c, .slice b 16 d] ∧ PO W w.heap.size a c b d P := by
 subst hx hy
 obtain ⟨a, c, b, d, rfl, o1, o2, _⟩ := h
 have l1 := cx_len P.1
 have l2 := cx_len P.2
 rw [l1] at o1
 rw [l2] at o2
 exact ⟨a, c, b, d, by rw [l1, l2], o1, o2⟩
theorem PO.pi {W : World} {B : Nat} {a b : Option Addr} {c d : Nat} {P : KF × KF} (h : PO W B a c b d P) : PI W a c b d P := ⟨is_of_own h.x (cx_int _), is_of_own h.y (cx_int _)⟩
theorem PO.below {A W : World} {B : Nat} {a b : Option Addr} {c d : Nat} {P : KF × KF} (h : PO A B a c b d P) (hb : Below A.heap.size A W) : PO W B a c b d P := ⟨own_below h.x hb, own_below h.y hb⟩
theorem PO.sc {W : World} {B hi E : Nat} {a b : Option Addr} {c d : Nat} {P : KF × KF} (h : PO W B a c b d P) (i1 : In (.slice a 16 c) B hi) (i2 : In (.slice b 16 d) B hi) (hE : E < B ∨ hi ≤ E) (cs : List Value) : PO (W.setCells E 0 cs) B a c b d P :=
 ⟨own_setCells h.x i1 hE cs, own_setCells h.y i2 hE cs⟩
section
variable [NeZero pN]
theorem oPBase (w : World) (hG : VarsOk w) : Calls Tryz.prog 11 #[] w fun e w' => ∃ a c b d, e = .returned (.agg #[.slice a 16 c, .slice b 16 d]) ∧ PO w' w.heap.size a c b d baseK ∧ Below w.heap.size w w' := by
 refine (implPtBase w hG.X hG.Y).mono ?_
 rintro e w1 ⟨v, rfl, hv, hb⟩
 obtain ⟨a, c, b, d, rfl, hp⟩ := PO.of hv base_lists.1 base_lists.2
 exact ⟨a, c, b, d, rfl, hp, hb⟩
theorem oPMul (a : Option Addr) (c : Nat) (b : Option Addr) (d : Nat) (P : KF × KF) (ak : Option Addr) (ck : Nat) (ks : List Int) (w : World) (h : PI w a c b d P) (hk : Is w ak 16 ck ks) (hP : On dK P) (hs : scOk ks = true) (hG : VarsOk w) :
  Calls Tryz.prog 19 #[.agg #[.slice a 16 c, .slice b 16 d], .agg #[.slice ak 16 ck]] w fun e w' => ∃ a1 c1 b1 d1, e = .returned (.tuple #[.agg #[.slice a1 16 c1, .slice b1 16 d1], .bool true]) ∧ PO w' w.heap.size a1 c1 b1 d1 (pMul dK ivK (val ks).toNat P) ∧ Below w.heap.size w w' := by
 refine (implPtMul a 16 c (cx P.1) b 16 d (cx P.2) ak 16 ck ks w h.x h.y hk hG.P hG.D hG.O).mono ?_
 rintro e w1 ⟨v, rfl, hv, hb⟩
 have e1 := okpt hP
 obtain ⟨m1, m2⟩ := pt_mul e1 (val ks).toNat (Nat.lt_trans (sc_253 hs) (by decide))
 rw [pt_back] at m1 m2
 rw [e1, hs] at hv ⊢
 obtain ⟨a1, c1, b1, d1, rfl, hp⟩ := PO.of (P := pMul dK ivK (val ks).toNat P) hv m1 m2
 exact ⟨a1, c1, b1, d1, rfl, hp, hb⟩
theorem oPBytes (a : Option Addr) (c : Nat) (b : Option Addr) (d : Nat) (P : KF × KF) (w : World) (h : PI w a c b d P) (hP : On dK P) (hG : VarsOk w) :
  Calls Tryz.prog 10 #[.agg #[.slice a 16 c, .slice b 16 d]] w fun e w' => ∃ v, e = .returned v ∧ w'.ownsRow w.heap.size 5 1 v 32 (U8 (enc P)) ∧ Below w.heap.size w w' := by
 refine (implPtBytes a 16 c (cx P.1) b 16 d (cx P.2) w h.x h.y hG.P hG.D).mono ?_
 rintro e w1 ⟨v, rfl, hv, hb⟩
 rw [ptBF_cx hP, enc_len] at hv
 exact ⟨v, rfl, hv, hb⟩
end
set_option maxHeartbeats 8000000 in
theorem implPtNeg (a1 : Option Addr) (n1 c1 : Nat) (xs1 : List Int) (b1 : Option Addr) (m1 d1 : Nat) (ys1 : List Int) (w : World) (hx1 : Is w a1 n1 c1 xs1) (hy1 : Is w b1 m1 d1 ys1) (hV : Vr w 4 (I64 PL)) (hD : Vr w 5 (I64 DL)) :
  Calls Tryz.prog 127 #[.agg #[.slice a1 n1 c1, .slice b1 m1 d1]] w fun e w' => ∃ v, e = .returned (.tuple #[v, .bool (ptOk xs1 ys1)]) ∧ PtT 65 w w' v (ptx (ptOk xs1 ys1) (neg6 (mk6 xs1 ys1))) (pty (ptOk xs1 ys1) (neg6 (mk6 xs1 ys1))) ∧ Below w.heap.size w w' := by
 obtain ⟨p, hp⟩ : ∃ p, p = ptOk xs1 ys1 := ⟨_, rfl⟩
 obtain ⟨L, hL⟩ : ∃ l, l = opL xs1 ys1 := ⟨_, rfl⟩
 obtain ⟨P, hP⟩ : ∃ P, P = mk6 xs1 ys1 := ⟨_, rfl⟩
 have HO1 : Hid (∀ Z, Below w.heap.size w Z → Vr Z 4 (I64 PL) → Vr Z 5 (I64 DL) → Calls Tryz.prog 41 #[.agg #[.slice a1 n1 c1, .slice b1 m1 d1]] Z fun e w' => e = .returned (.tuple #[.agg (I64 L).toArray, .bool p]) ∧ Below Z.heap.size Z w') := by
  unfold Hid; intro Z hZ h1 h2; rw [hL, hp]; exact implPtOpen a1 n1 c1 xs1 b1 m1 d1 ys1 Z (hx1.below hZ) (hy1.below hZ) h1 h2
 have nL : L.length = 64 := by rw [hL]; exact opL_len _ _
 have iL : (Tryz.prog.info? 67).map (·.size) = some (I64 L).toArray.size := by simpa [nL] using infoLp
 have HLL : Hid (p = true → L = P.cells ∧ P.Ok) := by
  unfold Hid; intro h; rw [hp] at h; obtain ⟨k1, k2, _⟩ := (ptOk_iff _ _).1 h; rw [hL, hP]; unfold opL; rw [if_pos h]; exact ⟨rfl, mk6_ok k1 k2⟩
 obtain ⟨x, hx⟩ : ∃ x, x = flx (neg6 (mk6 xs1 ys1)) := ⟨_, rfl⟩
 obtain ⟨y, hy⟩ : ∃ y, y = fly (neg6 (mk6 xs1 ys1)) := ⟨_, rfl⟩
 have nx : x.length = 16 := by rw [hx]; exact red_len _
 have ny : y.length = 16 := by rw [hy]; exact red_len _
 obtain ⟨Lx, hLx⟩ : ∃ l, l = ptx (ptOk xs1 ys1) (neg6 (mk6 xs1 ys1)) := ⟨_, rfl⟩
 obtain ⟨Ly, hLy⟩ : ∃ l, l = pty (ptOk xs1 ys1) (neg6 (mk6 xs1 ys1)) := ⟨_, rfl⟩
 have HN : Hid ((p) = false → ∀ {w' : World}, PtT 65 w w' (.agg #[.slice none 0 0, .slice none 0 0]) Lx Ly) := by
  unfold Hid; intro h w'; rw [hp] at h; rw [hLx, hLy, h]; exact ptT_nil _ _ _
 have HY : Hid ((p) = true → ∀ (V V' : World) (v : Value), PtT 65 V V' v x y → PtT 65 V V' v Lx Ly) := by
  unfold Hid; intro h V V' v k; rw [hp] at h; rw [hLx, hLy, h]; unfold ptx pty; rw [if_pos rfl, if_pos rfl, ← hx, ← hy]; exact k
 have HX : Hid (p = true → x = red (val (lim 16 0) - val P.a) ∧ y = P.b) := by
  unfold Hid; intro h; rw [hp] at h; rw [hx, hy, hP]; exact neg_lists h
 rw [← hLx, ← hLy, ← hp]
 obtain ⟨W, hW⟩ : ∃ W, W = (w.alloc (.cells #[.slice a1 n1 c1, .slice b1 m1 d1] 33)).alloc (.cells #[.slice none 0 0, .slice none 0 0] 33) := ⟨_, rfl⟩
 have fr : Below w.heap.size w W := by rw [hW]; exact (((Below.refl _ _).alloc (Nat.le_refl _) _).alloc (by simp) _)
 have pa1 : Arr W w.heap.size 33 ([.slice a1 n1 c1, .slice b1 m1 d1]) := by
  rw [hW]
  have := (Arr.new (w) ([.slice a1 n1 c1, .slice b1 m1 d1]) 33).alloc (.cells #[.slice none 0 0, .slice none 0 0] 33)
  exact this
 have pr : Arr W (w.heap.size + 1) 33 ([.slice none 0 0, .slice none 0 0]) := by
  rw [hW]
  have := Arr.new (w.alloc (.cells #[.slice a1 n1 c1, .slice b1 m1 d1] 33)) ([.slice none 0 0, .slice none 0 0]) 33
  rw [World.size_alloc] at this
  exact this
 have h0P := hV.lt
 have vP := hV.kept fr
 have h0D := hD.lt
 have vD := hD.kept fr
 clear hV hD
 clear hx hy hLx hLy hp hL hP hx1 hy1
 go_enter Tryz.func127, Tryz.ntmps127
 go_upto_region 1 with fail
 rw [← hW]
 clear hW
 go_wp2_with (refine wpList_load_row rfl 33 _ rfl w.heap.size rfl 33 ([Value.slice a1 n1 c1,  Value.slice b1 m1 d1]).toArray (0, 0) _ pa1 Tryz.underlying33 rfl infoPt ?_)
 refine (HO1.out _ fr vP vD).mono ?_
 rintro e y1 ⟨rfl, hb1⟩
 replace fr := fr.trans (hb1.mono fr.size)
 replace pa1 := pa1.kept hb1
 replace pr := pr.kept hb1
 replace vP := vP.kept hb1
 replace vD := vD.kept hb1
 clear hb1
 have hXL : w.heap.size < y1.heap.size ∧ (w.heap.size + 1) < y1.heap.size ∧ w.heap.size ≤ y1.heap.size := ⟨pa1.lt, pr.lt, fr.size⟩
 obtain ⟨bV, AL, q1⟩ := laid_lp y1 L
 replace fr := fr.trans (bV.mono fr.size)
 replace pa1 := pa1.kept bV
 replace pr := pr.kept bV
 replace vP := vP.kept bV
 replace vD := vD.kept bV
 go_upto_region 2 with (refine wpList_store_row rfl 67 _ _ rfl y1.heap.size (I64 L).toArray rfl rfl 67 _ q1 iL (by simp [nL]) (by simp [Value.oneCell']) ?_)
 obtain ⟨V2, hVV⟩ : ∃ V, V = (y1.alloc (.cells #[.int .i64 0, .int .i64 0, .int .i64 0, .int .i64 0, .int .i64 0, .int .i64 0, .int .i64 0, .int .i64 0, .int .i64 0, .int .i64 0, .int .i64 0, .int .i64 0, .int .i64 0, .int .i64 0, .int .i64 0, .int .i64 0, .int .i64 0, .int .i64 0, .int .i64 0, .int .i64 0, .int .i64 0, .int .i64 0, .int .i64 0, .int .i64 0, .int .i64 0, .int .i64 0, .int .i64 0, .int .i64 0, .int .i64 0, .int .i64 0, .int .i64 0, .int .i64 0, .int .i64 0, .int .i64 0, .int .i64 0, .int .i64 0, .int .i64 0, .int .i64 0, .int .i64 0, .int .i64 0, .int .i64 0, .int .i64 0, .int .i64 0, .int .i64 0, .int .i64 0, .int .i64 0, .int .i64 0, .int .i64 0, .int .i64 0, .int .i64 0, .int .i64 0, .int .i64 0, .int .i64 0, .int .i64 0, .int .i64 0, .int .i64 0, .int .i64 0, .int .i64 0, .int .i64 0, .int .i64 0, .int .i64 0, .int .i64 0, .int .i64 0, .int .i64 0] 67)).setRow y1.heap.size (I64 L).toArray := ⟨_, rfl⟩
 obtain ⟨XL, hE⟩ : ∃ E, E = y1.heap.size := ⟨_, rfl⟩
 rw [← hVV] at fr pa1 pr vP vD AL ⊢
 rw [← hE] at AL hXL ⊢
 clear hVV hE q1 bV
 cases p with
 | false =>
  have h2 := pr.row ([.slice none 0 0, .slice none 0 0])
  have HB : Hid _ := setRow_below fr (w.heap.size + 1) ([.slice none 0 0, .slice none 0 0]).toArray (by omega)
  go_wp2_with (refine wpList_store_row rfl 33 _ _ rfl (w.heap.size + 1) ([Value.slice none 0 0,  Value.slice none 0 0]).toArray rfl rfl 33 _ pr infoPt rfl (by simp [Value.oneCell']) ?_)
  exact bodyPost_ret (results_row_tmp (v := .bool false) (cs := [.slice none 0 0, .slice none 0 0]) rfl rfl rfl h2 Tryz.underlying33 rfl infoPt) rfl ⟨_, rfl, HN.out (by simp), HB.out⟩
 | true =>
  obtain ⟨eL, hPo⟩ := HLL.out (by simp)
  subst eL
  have hip := infoLp' hPo
  obtain ⟨eX, eY⟩ := HX.out (by simp)
  have Ho : Hid (∀ Z, Vr Z 4 (I64 PL) → Calls Tryz.prog 103 #[.agg (I64 P.a).toArray] Z fun e w' => e = .returned (.agg (I64 x).toArray) ∧ Below Z.heap.size Z w') := by
   unfold Hid; intro Z hZ; rw [eX]; exact implOpposite P.a Z hPo.a hZ
  have Hq : Hid (∀ Z, Calls Tryz.prog 44 #[.agg (I64 x).toArray, .agg (I64 P.b).toArray] Z fun e w' => ∃ v, e = .returned v ∧ PtT 65 Z w' v x y ∧ Below Z.heap.size Z w') := by
   unfold Hid; intro Z; rw [← eY]; exact implPtOf x y Z nx ny
  have iPa := infoLl hPo.a
  have iPb := infoLl hPo.b
  have hu : Tryz.prog.underlying 65 = some (.array 16 3) := Tryz.underlying65
  clear eX eY HX
  go_upto_region 4 with fail
  try simp only [Act.put]
  have bD : Below V2.heap.size V2 V2.drew := (Below.refl _ _).drew
  replace fr := fr.trans (bD.mono fr.size)
  replace pa1 := pa1.kept bD
  replace pr := pr.kept bD
  replace vP := vP.kept bD
  replace vD := vD.kept bD
  replace AL := AL.kept bD
  clear bD
  refine wp_region_held_drew (S := fun W => W.rangeAt XL 0 (I64 P.a) ∧ W.rangeAt XL 16 (I64 P.b)) (by kernel_rfl) ⟨E4.ra AL, E4.rb hPo AL⟩ (fun hHeld => ?_)
  obtain ⟨D3, hD⟩ : ∃ V, V = V2.drew := ⟨_, rfl⟩
  rw [← hD] at hHeld fr pa1 pr vP vD AL ⊢
  clear hD
  refine wpAnyH_take (i := 0) (oi := { dst := some 14, op := Op.fieldAddr 67 (Operand.tmp 4) 0, type := 0, pos := "l06_point.go:72", after := #[], guard := none }) (v := .pointer (some ⟨XL, 0, none⟩)) rfl (by kernel_rfl) (by kernel_rfl) (by kernel_rfl) (fun _ _ _ h => h) (.inl ⟨by rfl, fun _ _ => by rfl⟩) (by assumption) ?_
  simp only [aP]
  refine wpAnyH_take (i := 1) (oi := { dst := some 15, op := Op.load 65 (Operand.tmp 14), type := 65, pos := "l06_point.go:72", after := #[{ on := 0, ground := Ground.data }], guard := none }) (v := _) rfl (by kernel_rfl) (by kernel_rfl) (by kernel_rfl) (fun _ _ _ h => h) (yieldsIf_load_mid (by rfl) _ _ rfl _ _ rfl (I64 P.a) _ (fun _ h => h.1) hu rfl iPa) (by assumption) ?_
  simp only [aP]
  refine wpAnyH_take (i := 3) (oi := { dst := some 17, op := Op.fieldAddr 67 (Operand.tmp 4) 1, type := 0, pos := "l06_point.go:72", after := #[], guard := none }) (v := .pointer (some ⟨XL, 16, none⟩)) rfl (by kernel_rfl) (by kernel_rfl) (by kernel_rfl) (fun _ _ _ h => h) (.inl ⟨by rfl, fun _ _ => by rfl⟩) (by assumption) ?_
  simp only [aP]
  refine wpAnyH_take (i := 4) (oi := { dst := some 18, op := Op.load 65 (Operand.tmp 17), type := 65, pos := "l06_point.go:72", after := #[{ on := 3, ground := Ground.data }], guard := none }) (v := _) rfl (by kernel_rfl) (by kernel_rfl) (by kernel_rfl) (fun _ _ _ h => h) (yieldsIf_load_mid (by rfl) _ _ rfl _ _ rfl (I64 P.b) _ (fun _ h => h.2) hu rfl iPb) (by assumption) ?_
  simp only [aP]
  refine wpAnyH_ready (rs := [2]) (by kernel_rfl) (by simp) (AllReadyH.cons (o := { dst := some 16, op := Op.call { callee := Callee.value (Operand.func 103), args := #[Operand.tmp 15], argTypes := #[65] }, type := 65, pos := "l06_point.go:72", after := #[{ on := 1, ground := Ground.data }], guard := none }) rfl (fun K hK => ?_) AllReadyH.nil)
  go_simp
  refine (Ho.out _ vP).mono ?_
  rintro e y4 ⟨rfl, hb4⟩
  replace fr := fr.trans (hb4.mono fr.size)
  replace pa1 := pa1.kept hb4
  replace pr := pr.kept hb4
  replace vP := vP.kept hb4
  replace vD := vD.kept hb4
  replace AL := AL.kept hb4
  clear hb4
  go_wp2_with fail
  refine hK.out _ _ ⟨E4.ra AL, E4.rb hPo AL⟩ (fun hHeld => ?_)
  clear hK K
  refine wpAnyH_ready (rs := [5]) (by kernel_rfl) (by simp) (AllReadyH.cons (o := { dst := some 19, op := Op.call { callee := Callee.value (Operand.func 44), args := #[Operand.tmp 16, Operand.tmp 18], argTypes := #[65, 65] }, type := 33, pos := "l06_point.go:72", after := #[{ on := 2, ground := Ground.data }, { on := 4, ground := Ground.data }, { on := 2, ground := Ground.chain }], guard := none }) rfl (fun K hK => ?_) AllReadyH.nil)
  go_simp
  have hl : w.heap.size + 1 < y4.heap.size := pr.lt
  refine (Hq.out _).mono ?_
  rintro e y5 ⟨v, rfl, hpt, hb5⟩
  replace fr := fr.trans (hb5.mono fr.size)
  replace pa1 := pa1.kept hb5
  replace pr := pr.kept hb5
  replace vP := vP.kept hb5
  replace vD := vD.kept hb5
  replace AL := AL.kept hb5
  clear hb5
  obtain ⟨aa, ca, ab, cb, rfl, oa, ob, hap⟩ := hpt
  rw [nx, ny] at hap ⊢
  rw [nx] at oa
  rw [ny] at ob
  have ia := In.of oa
  have ib := In.of ob
  go_wp2_with fail
  refine hK.out _ _ ⟨E4.ra AL, E4.rb hPo AL⟩ (fun hHeld => ?_)
  clear hK K
  refine wpAnyH_ready (rs := [6]) (by kernel_rfl) (by simp) (AllReadyH.cons (o := { dst := none, op := Op.store 33 (Operand.tmp 2) (Operand.tmp 19), type := 0, pos := "l06_point.go:72", after := #[{ on := 5, ground := Ground.data }, { on := 5, ground := Ground.chain }, { on := 0, ground := Ground.phase }, { on := 1, ground := Ground.phase }, { on := 2, ground := Ground.phase }, { on := 3, ground := Ground.phase }, { on := 4, ground := Ground.phase }, { on := 5, ground := Ground.phase }], guard := none }) rfl (fun K hK => ?_) AllReadyH.nil)
  rw [if_pos (by rfl)]
  refine wp_store_mid _ _ _ rfl _ _ ([.slice aa 16 ca, .slice ab 16 cb]).toArray rfl rfl (by have := arr_there pr; simpa using this) infoPt (all_oneCell_toArray (by simp [Value.oneCell'])) ?_
  simp only [Act.put]
  replace fr := bel_sc fr (w.heap.size + 1) ([.slice aa 16 ca, .slice ab 16 cb]) (by omega)
  replace pa1 := pa1.sc (w.heap.size + 1) ([.slice aa 16 ca, .slice ab 16 cb]) (by omega)
  replace pr := pr.sc0 ([.slice aa 16 ca, .slice ab 16 cb]) (by simp)
  replace vP := vP.sc (w.heap.size + 1) ([.slice aa 16 ca, .slice ab 16 cb]) (by omega)
  replace vD := vD.sc (w.heap.size + 1) ([.slice aa 16 ca, .slice ab 16 cb]) (by omega)
  replace AL := AL.sc (w.heap.size + 1) ([.slice aa 16 ca, .slice ab 16 cb]) (by omega)
  replace oa : (y5.setCells (w.heap.size + 1) 0 ([.slice aa 16 ca, .slice ab 16 cb])).ownsRow y4.heap.size 65 1 (.slice aa 16 ca) 16 (I64 x) := own_setCells oa ia (.inl hl) _
  replace ob : (y5.setCells (w.heap.size + 1) 0 ([.slice aa 16 ca, .slice ab 16 cb])).ownsRow y4.heap.size 65 1 (.slice ab 16 cb) 16 (I64 y) := own_setCells ob ib (.inl hl) _
  obtain ⟨V6, hVe⟩ : ∃ V, V = y5.setCells (w.heap.size + 1) 0 ([.slice aa 16 ca, .slice ab 16 cb]) := ⟨_, rfl⟩
  rw [← hVe] at fr pa1 pr vP vD AL oa ob ⊢
  clear hVe
  refine hK.out _ _ ⟨E4.ra AL, E4.rb hPo AL⟩ (fun hHeld => ?_)
  clear hK K
  refine wpAnyH_ready (rs := [7]) (by kernel_rfl) (by simp) (AllReadyH.cons (o := { dst := some 3, op := Op.assign (Operand.const (Value.bool true)), type := 4, pos := "l06_point.go:72", after := #[{ on := 6, ground := Ground.chain }, { on := 0, ground := Ground.phase }, { on := 1, ground := Ground.phase }, { on := 2, ground := Ground.phase }, { on := 3, ground := Ground.phase }, { on := 4, ground := Ground.phase }, { on := 5, ground := Ground.phase }, { on := 6, ground := Ground.phase }], guard := none }) rfl (fun K hK => ?_) AllReadyH.nil)
  go_simp
  refine hK.out _ _ ⟨E4.ra AL, E4.rb hPo AL⟩ (fun hHeld => ?_)
  clear hK K
  refine wpAnyH_done (by kernel_rfl) ?_ _
  go_wp2
  exact bodyPost_ret (results_row_tmp (v := .bool true) (cs := [.slice aa 16 ca, .slice ab 16 cb]) rfl rfl rfl pr Tryz.underlying33 rfl infoPt) rfl ⟨_, rfl, HY.out (by simp) _ _ _ (ptT_16 nx ny (own_base oa (by omega)) (own_base ob (by omega)) hap), fr⟩

end Go.Proofs.YtihoaakbkffejaaGreatDoor

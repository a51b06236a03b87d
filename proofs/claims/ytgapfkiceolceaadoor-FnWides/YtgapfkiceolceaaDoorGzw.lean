/-
  What is proved here: the contract of the program's shaSum at words of 64 bits: the words go through the tail, the mark, the zeros and the length, and their bytes are told.
-/
import Derived.Test.YtgapfkiceolceaaDoorGlw
import Derived.Test.YtgapfkiceolceaaDoorQf
import Derived.Test.YtgapfkiceolceaaDoorWy
namespace Go.Proofs.YtgapfkiceolceaaDoor
open Go.RowKit
set_option maxRecDepth 100000

theorem hbw (x : Int) : hbk x 8 8 = b8 x 8 := by
  unfold hbk b8; apply List.map_congr_left; intro j hj; rw [show 8 * (8 - 1 - j) = 56 - 8 * j by have := List.mem_range.1 hj; omega]

/-- What the way to the sum holds: the box of the words and the box of the rules. -/
structure Sgw (w W : World) (rb : Nat) (st : List Int) : Prop where
  fr : Below w.heap.size w W
  ar : Arr W w.heap.size 95 (U64 st)
  ru : Arr W (w.heap.size + 1) 89 [.int .i64 28, .int .i64 34, .int .i64 39, .int .i64 14, .int .i64 18, .int .i64 41, .int .i64 1, .int .i64 8, .int .i64 7, .int .i64 19, .int .i64 61, .int .i64 6, .slice (some ⟨rb, 0, none⟩) 80 80]
  rb : Arr W rb 44 (U64 KW)
theorem Sgw.all {w W : World} {rb : Nat} {st : List Int} (h : Sgw w W rb st) : W.cell? ⟨w.heap.size + 1, 0, none⟩ = some (.int .i64 28) ∧ W.cell? ⟨w.heap.size + 1, 1, none⟩ = some (.int .i64 34) ∧ W.cell? ⟨w.heap.size + 1, 2, none⟩ = some (.int .i64 39) ∧ W.cell? ⟨w.heap.size + 1, 3, none⟩ = some (.int .i64 14) ∧ W.cell? ⟨w.heap.size + 1, 4, none⟩ = some (.int .i64 18) ∧ W.cell? ⟨w.heap.size + 1, 5, none⟩ = some (.int .i64 41) ∧ W.cell? ⟨w.heap.size + 1, 6, none⟩ = some (.int .i64 1) ∧ W.cell? ⟨w.heap.size + 1, 7, none⟩ = some (.int .i64 8) ∧ W.cell? ⟨w.heap.size + 1, 8, none⟩ = some (.int .i64 7) ∧ W.cell? ⟨w.heap.size + 1, 9, none⟩ = some (.int .i64 19) ∧ W.cell? ⟨w.heap.size + 1, 10, none⟩ = some (.int .i64 61) ∧ W.cell? ⟨w.heap.size + 1, 11, none⟩ = some (.int .i64 6) ∧ W.cell? ⟨w.heap.size + 1, 12, none⟩ = some (.slice (some ⟨rb, 0, none⟩) 80 80) :=
  ⟨h.ru.cell 0, h.ru.cell 1, h.ru.cell 2, h.ru.cell 3, h.ru.cell 4, h.ru.cell 5, h.ru.cell 6, h.ru.cell 7, h.ru.cell 8, h.ru.cell 9, h.ru.cell 10, h.ru.cell 11, h.ru.cell 12⟩
theorem Sgw.go {w A B : World} {rb : Nat} {st : List Int} (h : Sgw w A rb st) (hb : Below A.heap.size A B) : Sgw w B rb st :=
  ⟨h.fr.trans (hb.mono h.fr.size), h.ar.kept hb, h.ru.kept hb, h.rb.kept hb⟩
theorem Sgw.turn {w A B : World} {rb : Nat} {st st' : List Int} (h : Sgw w A rb st) (hg : A.grownBy B (some w.heap.size)) (ha : Arr B w.heap.size 95 (U64 st')) (hr : rb < w.heap.size) : Sgw w B rb st' :=
  ⟨h.fr.grown hg h.fr.size (fun j e => by cases e; exact Nat.le_refl _), ha, (hg.block _ h.ru.lt (fun e => by injection e with e; omega)).trans h.ru, (hg.block _ h.rb.lt (fun e => by injection e with e; omega)).trans h.rb⟩

set_option maxHeartbeats 2000000 in
theorem sumCw (hs : List Int) (a : Option Addr) (n c rb : Nat) (ts : List Int) (N : Int) (w : World) (hl : hs.length = 8) (hw : ∀ x ∈ hs, 0 ≤ x ∧ x < 18446744073709551616) (hT : Bs w a n c ts) (h0 : 0 ≤ N) (h1 : N ≤ 20000) (hn : n ≤ 20000) (hrb : Arr w rb 44 (U64 KW)) :
    Calls Tryd.prog 71 #[.agg (U64 hs).toArray, .slice a n c, .int .i64 N, rulesVw rb] w fun e w' => ∃ v, e = .returned v ∧ w'.ownsRow w.heap.size 5 1 v 64 (U8 (sumW (fldw hs (ts ++ pdw n N) ((n + (zfw n + 17)) / 128)))) ∧ Below w.heap.size w w' := by
  have hrl := hrb.lt
  obtain ⟨W, hW⟩ : ∃ W, W = (w.alloc (.cells (U64 hs).toArray 95)).alloc (.cells #[.int .i64 28, .int .i64 34, .int .i64 39, .int .i64 14, .int .i64 18, .int .i64 41, .int .i64 1, .int .i64 8, .int .i64 7, .int .i64 19, .int .i64 61, .int .i64 6, .slice (some ⟨rb, 0, none⟩) 80 80] 89) := ⟨_, rfl⟩
  have hB : Below w.heap.size w W := by rw [hW]; exact ((Below.refl _ _).alloc (Nat.le_refl _) _).alloc (by simp) _
  have SG : Sgw w W rb hs := by
    refine ⟨hB, ?_, ?_, hrb.kept hB⟩
    · rw [hW]; exact (Arr.new w (U64 hs) _).alloc _
    · rw [hW]
      have := Arr.new (w.alloc (.cells (U64 hs).toArray 95)) [.int .i64 28, .int .i64 34, .int .i64 39, .int .i64 14, .int .i64 18, .int .i64 41, .int .i64 1, .int .i64 8, .int .i64 7, .int .i64 19, .int .i64 61, .int .i64 6, .slice (some ⟨rb, 0, none⟩) 80 80] 89
      rw [World.size_alloc] at this
      exact this
  have hT1 := hT.below hB
  obtain ⟨l0, l1, l2, l3, l4, l5, l6, l7, hhs⟩ := list8 hl
  rw [hhs, show (U64 [l0, l1, l2, l3, l4, l5, l6, l7]).toArray = #[.int .u64 l0, .int .u64 l1, .int .u64 l2, .int .u64 l3, .int .u64 l4, .int .u64 l5, .int .u64 l6, .int .u64 l7] from rfl] at hW
  have SGd : Sgw w W.drew rb hs := SG.go (Below.refl _ _).drew
  have hWs : w.heap.size < W.drew.heap.size := SGd.ar.lt
  have hTd : Bs W.drew a n c ts := hT1.below (Below.refl _ _).drew
  obtain ⟨L, hL⟩ : ∃ L, L = ts ++ pdw n N := ⟨_, rfl⟩
  have hLl : L.length = n + (zfw n + 17) := by rw [hL]; simp [pdw_len, hT.2.1]
  have hLb : ∀ x ∈ L, 0 ≤ x ∧ x < 256 := by
    rw [hL]
    intro x hx
    rcases List.mem_append.1 hx with h | h
    · exact hT.2.2.2.1 x h
    · exact pdw_byte n N x h
  obtain ⟨q, hq⟩ : ∃ q, q = n + (zfw n + 17) := ⟨_, rfl⟩
  have HP : Hid (∀ Z, Bs Z a n c ts → Calls Tryd.prog 97 #[.slice a n c, .int .i64 N] Z fun e w' => ∃ v, e = .returned v ∧ w'.ownsRow Z.heap.size 5 1 v q (U8 L) ∧ Below Z.heap.size Z w') := by
    unfold Hid
    intro Z hz
    rw [hL, hq]
    exact paddedCw a n c ts N Z hz h0 h1 hn
  rw [← hq] at hLl
  have HQ : Hid _ := hq
  have HL : Hid _ := hL
  have HHS : Hid _ := hhs
  have HLB : Hid _ := hLb
  clear hq hL hLb SG hT1 hT hB
  rw [← HL.out, ← HQ.out]
  go_enter Tryd.func71, Tryd.ntmps71
  rw [show (Value.agg (U64 hs).toArray) = Value.agg #[.int .u64 l0, .int .u64 l1, .int .u64 l2, .int .u64 l3, .int .u64 l4, .int .u64 l5, .int .u64 l6, .int .u64 l7] by rw [HHS.out]; rfl]
  clear hhs
  go_wp2
  rw [← hW]
  clear hW
  go_region_held3 (fun W => W.cell? ⟨w.heap.size + 1, 0, none⟩ = some (.int .i64 28) ∧ W.cell? ⟨w.heap.size + 1, 1, none⟩ = some (.int .i64 34) ∧ W.cell? ⟨w.heap.size + 1, 2, none⟩ = some (.int .i64 39) ∧ W.cell? ⟨w.heap.size + 1, 3, none⟩ = some (.int .i64 14) ∧ W.cell? ⟨w.heap.size + 1, 4, none⟩ = some (.int .i64 18) ∧ W.cell? ⟨w.heap.size + 1, 5, none⟩ = some (.int .i64 41) ∧ W.cell? ⟨w.heap.size + 1, 6, none⟩ = some (.int .i64 1) ∧ W.cell? ⟨w.heap.size + 1, 7, none⟩ = some (.int .i64 8) ∧ W.cell? ⟨w.heap.size + 1, 8, none⟩ = some (.int .i64 7) ∧ W.cell? ⟨w.heap.size + 1, 9, none⟩ = some (.int .i64 19) ∧ W.cell? ⟨w.heap.size + 1, 10, none⟩ = some (.int .i64 61) ∧ W.cell? ⟨w.heap.size + 1, 11, none⟩ = some (.int .i64 6) ∧ W.cell? ⟨w.heap.size + 1, 12, none⟩ = some (.slice (some ⟨rb, 0, none⟩) 80 80))
    (exact SGd.all)
    ((first
      | (go_at_call 97; refine (HP.out _ hTd).mono ?_; rintro e w2 ⟨v2, rfl, ho2, hb2⟩; replace SGd := SGd.go hb2; obtain ⟨a2, c2, rfl, _, hx2⟩ := Bs.own ho2 HLB.out; have hoff := off_of_own ho2 hWs)
      | (go_at_call 96; refine (takeBlocksCw w.heap.size hs a2 q c2 rb L _ SGd.ar hl hx2 hoff SGd.rb (by omega)).mono ?_; rintro e w3 ⟨a3, c3, rfl, _, _, hA3, hg3⟩; replace SGd := SGd.turn hg3 hA3 hrl)))
  obtain ⟨st, hst⟩ : ∃ st, st = fldw hs L (q / 128) := ⟨_, rfl⟩
  have hstl : st.length = 8 := by rw [hst]; exact fldw_len hl _ _
  have hstw : ∀ x ∈ st, 0 ≤ x ∧ x < 18446744073709551616 := by rw [hst]; exact fldw_word hw _ _
  have SG3 : Sgw w w3 rb st := by rw [hst]; exact SGd
  have HST : Hid _ := hst
  have hsz3 := SG3.ru.lt
  have hsz : (Tryd.prog.info? 95).map (·.size) = some 8 := by kernel_rfl
  have hSA := SG3.ar
  have hb3 := SG3.fr
  clear hst SGd hw hl hx2 ho2 hb2 hA3 hg3 hTd SG3 HP HLB
  go_wp2_with (refine wpList_load_row rfl 95 _ rfl w.heap.size rfl 95 (U64 st).toArray (0, 0) _ hSA Tryd.underlying95 rfl (by simpa [hstl] using hsz) ?_)
  go_loopw [9, 18] (fun v i wr => ∃ k m : Nat, m = 8 * k ∧ k ≤ 8 ∧ i = .int .i64 k ∧ wr.ownsRow w3.heap.size 5 1 v m (U8 (sumW (st.take k))) ∧ Below w3.heap.size w3 wr) (fun _ i _ => 8 - (intOf i).toNat)
  case atStart => exact ⟨0, 0, rfl, by omega, rfl, by simpa [sumW] using World.ownsRow_nil _ _ _ _, Below.refl _ _⟩
  case round =>
    obtain ⟨k, m, hm, hk, rfl, hown, hb⟩ := hrel
    by_cases hlt : k < 8
    · have ix := fun w => index_arr Tryd.underlying95 Tryd.underlying43 infoCw st hstl k hlt w
      obtain ⟨x, hx⟩ : ∃ x, x = st.getD k 0 := ⟨_, rfl⟩
      rw [← hx] at ix
      obtain ⟨hx0, hx1⟩ : 0 ≤ x ∧ x < 18446744073709551616 := by rw [hx]; exact hstw _ (getD_memW (by omega))
      have hsn := tksnw st k (by omega)
      rw [← hx] at hsn
      have HN : Hid (sumW (st.take (k + 1)) = sumW (st.take k) ++ hbk x 8 8) := by unfold Hid; rw [hbw]; exact sumW_snoc hsn
      have HM : Hid _ := hm
      have hm60 : m ≤ 100 := by omega
      clear hx hsn hm
      have hk8 : (k : Int) < 8 := by omega
      have hcv : IntKind.u64.wrap x = x := by simp [IntKind.wrap, IntKind.signed, IntKind.bits]; omega
      have hws := hb.size
      have hH := highFirst w3.heap.size m _ (sumW (st.take k)) x 8 wr hown hws (by omega) (by omega) hx0 (by omega)
      go_wp2_with (go_at_call 98; refine (wordBytesw _).mono ?_; rintro e w' ⟨rfl, hw'⟩; rw [hw']; clear hw' w')
      refine hH.mono ?_
      rintro e w4 ⟨v4, rfl, ho4, hb4⟩
      have hb5 := hb.trans hb4
      have HR : Hid (w4.ownsRow w3.heap.size 5 1 v4 (m + 8) (U8 (sumW (st.take (k + 1))))) := by unfold Hid; rw [HN.out]; exact ho4
      clear hH ho4 hb4 hown hb HN
      go_wp2
      go_roundw
      case rel => exact ⟨k + 1, m + 8, by have := HM.out; omega, by omega, by go_num, HR.out, hb5⟩
      case measure => simp [intOf]; omega
    · obtain rfl : k = 8 := by omega
      obtain rfl : m = 64 := hm
      rw [List.take_of_length_le (show st.length ≤ 8 by omega), HST.out] at hown
      go_wp2
      go_ret
      exact ⟨_, rfl, own_base hown (by omega), hb3.trans (hb.mono (by omega))⟩
end Go.Proofs.YtgapfkiceolceaaDoor

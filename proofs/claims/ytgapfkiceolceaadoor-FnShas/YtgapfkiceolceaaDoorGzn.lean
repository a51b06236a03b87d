/-
  What is proved here: the contract of the program's shaSum at words of 32 bits: the words go through the tail, the mark, the zeros and the length, and their bytes are told.
-/
import Derived.Test.YtgapfkiceolceaaDoorGln
import Derived.Test.YtgapfkiceolceaaDoorQf
import Derived.Test.YtgapfkiceolceaaDoorQ3
namespace Go.Proofs.YtgapfkiceolceaaDoor
open Go.RowKit
set_option maxRecDepth 100000

theorem gD_mem {xs : List Int} {k : Nat} (hk : k < xs.length) : xs.getD k 0 ∈ xs := by
  rw [List.getD_eq_getElem?_getD, List.getElem?_eq_getElem hk]; exact List.getElem_mem _
theorem hbn (x : Int) : hbk x 4 4 = b4 x := by
  simp [hbk, b4, List.range_succ]

/-- What the way to the sum holds: the box of the words and the box of the rules. -/
structure Sgn (w W : World) (rb : Nat) (st : List Int) : Prop where
  fr : Below w.heap.size w W
  ar : Arr W w.heap.size 65 (U32 st)
  ru : Arr W (w.heap.size + 1) 74 [.int .i64 2, .int .i64 13, .int .i64 22, .int .i64 6, .int .i64 11, .int .i64 25, .int .i64 7, .int .i64 18, .int .i64 3, .int .i64 17, .int .i64 19, .int .i64 10, .slice (some ⟨rb, 0, none⟩) 64 64]
  rb : Arr W rb 111 (U32 KS)
theorem Sgn.all {w W : World} {rb : Nat} {st : List Int} (h : Sgn w W rb st) : W.cell? ⟨w.heap.size + 1, 0, none⟩ = some (.int .i64 2) ∧ W.cell? ⟨w.heap.size + 1, 1, none⟩ = some (.int .i64 13) ∧ W.cell? ⟨w.heap.size + 1, 2, none⟩ = some (.int .i64 22) ∧ W.cell? ⟨w.heap.size + 1, 3, none⟩ = some (.int .i64 6) ∧ W.cell? ⟨w.heap.size + 1, 4, none⟩ = some (.int .i64 11) ∧ W.cell? ⟨w.heap.size + 1, 5, none⟩ = some (.int .i64 25) ∧ W.cell? ⟨w.heap.size + 1, 6, none⟩ = some (.int .i64 7) ∧ W.cell? ⟨w.heap.size + 1, 7, none⟩ = some (.int .i64 18) ∧ W.cell? ⟨w.heap.size + 1, 8, none⟩ = some (.int .i64 3) ∧ W.cell? ⟨w.heap.size + 1, 9, none⟩ = some (.int .i64 17) ∧ W.cell? ⟨w.heap.size + 1, 10, none⟩ = some (.int .i64 19) ∧ W.cell? ⟨w.heap.size + 1, 11, none⟩ = some (.int .i64 10) ∧ W.cell? ⟨w.heap.size + 1, 12, none⟩ = some (.slice (some ⟨rb, 0, none⟩) 64 64) :=
  ⟨h.ru.cell 0, h.ru.cell 1, h.ru.cell 2, h.ru.cell 3, h.ru.cell 4, h.ru.cell 5, h.ru.cell 6, h.ru.cell 7, h.ru.cell 8, h.ru.cell 9, h.ru.cell 10, h.ru.cell 11, h.ru.cell 12⟩
theorem Sgn.go {w A B : World} {rb : Nat} {st : List Int} (h : Sgn w A rb st) (hb : Below A.heap.size A B) : Sgn w B rb st :=
  ⟨h.fr.trans (hb.mono h.fr.size), h.ar.kept hb, h.ru.kept hb, h.rb.kept hb⟩
theorem Sgn.turn {w A B : World} {rb : Nat} {st st' : List Int} (h : Sgn w A rb st) (hg : A.grownBy B (some w.heap.size)) (ha : Arr B w.heap.size 65 (U32 st')) (hr : rb < w.heap.size) : Sgn w B rb st' :=
  ⟨h.fr.grown hg h.fr.size (fun j e => by cases e; exact Nat.le_refl _), ha, (hg.block _ h.ru.lt (fun e => by injection e with e; omega)).trans h.ru, (hg.block _ h.rb.lt (fun e => by injection e with e; omega)).trans h.rb⟩

set_option maxHeartbeats 2000000 in
theorem sumCn (hs : List Int) (a : Option Addr) (n c rb : Nat) (ts : List Int) (N : Int) (w : World) (hl : hs.length = 8) (hw : ∀ x ∈ hs, 0 ≤ x ∧ x < 4294967296) (hT : Bs w a n c ts) (h0 : 0 ≤ N) (h1 : N ≤ 20000) (hn : n ≤ 20000) (hrb : Arr w rb 111 (U32 KS)) :
    Calls Tryd.prog 60 #[.agg (U32 hs).toArray, .slice a n c, .int .i64 N, rulesVn rb] w fun e w' => ∃ v, e = .returned v ∧ w'.ownsRow w.heap.size 5 1 v 32 (U8 (sumB (fld hs (ts ++ pdn n N) ((n + (zfn n + 9)) / 64)))) ∧ Below w.heap.size w w' := by
  have hrl := hrb.lt
  obtain ⟨W, hW⟩ : ∃ W, W = (w.alloc (.cells (U32 hs).toArray 65)).alloc (.cells #[.int .i64 2, .int .i64 13, .int .i64 22, .int .i64 6, .int .i64 11, .int .i64 25, .int .i64 7, .int .i64 18, .int .i64 3, .int .i64 17, .int .i64 19, .int .i64 10, .slice (some ⟨rb, 0, none⟩) 64 64] 74) := ⟨_, rfl⟩
  have hB : Below w.heap.size w W := by rw [hW]; exact ((Below.refl _ _).alloc (Nat.le_refl _) _).alloc (by simp) _
  have SG : Sgn w W rb hs := by
    refine ⟨hB, ?_, ?_, hrb.kept hB⟩
    · rw [hW]; exact (Arr.new w (U32 hs) _).alloc _
    · rw [hW]
      have := Arr.new (w.alloc (.cells (U32 hs).toArray 65)) [.int .i64 2, .int .i64 13, .int .i64 22, .int .i64 6, .int .i64 11, .int .i64 25, .int .i64 7, .int .i64 18, .int .i64 3, .int .i64 17, .int .i64 19, .int .i64 10, .slice (some ⟨rb, 0, none⟩) 64 64] 74
      rw [World.size_alloc] at this
      exact this
  have hT1 := hT.below hB
  obtain ⟨l0, l1, l2, l3, l4, l5, l6, l7, hhs⟩ := list8 hl
  rw [hhs, show (U32 [l0, l1, l2, l3, l4, l5, l6, l7]).toArray = #[.int .u32 l0, .int .u32 l1, .int .u32 l2, .int .u32 l3, .int .u32 l4, .int .u32 l5, .int .u32 l6, .int .u32 l7] from rfl] at hW
  have SGd : Sgn w W.drew rb hs := SG.go (Below.refl _ _).drew
  have hWs : w.heap.size < W.drew.heap.size := SGd.ar.lt
  have hTd : Bs W.drew a n c ts := hT1.below (Below.refl _ _).drew
  obtain ⟨L, hL⟩ : ∃ L, L = ts ++ pdn n N := ⟨_, rfl⟩
  have hLl : L.length = n + (zfn n + 9) := by rw [hL]; simp [pdn_len, hT.2.1]
  have hLb : ∀ x ∈ L, 0 ≤ x ∧ x < 256 := by
    rw [hL]
    intro x hx
    rcases List.mem_append.1 hx with h | h
    · exact hT.2.2.2.1 x h
    · exact pdn_byte n N x h
  obtain ⟨q, hq⟩ : ∃ q, q = n + (zfn n + 9) := ⟨_, rfl⟩
  have HP : Hid (∀ Z, Bs Z a n c ts → Calls Tryd.prog 89 #[.slice a n c, .int .i64 N] Z fun e w' => ∃ v, e = .returned v ∧ w'.ownsRow Z.heap.size 5 1 v q (U8 L) ∧ Below Z.heap.size Z w') := by
    unfold Hid
    intro Z hz
    rw [hL, hq]
    exact paddedCn a n c ts N Z hz h0 h1 hn
  rw [← hq] at hLl
  have HQ : Hid _ := hq
  have HL : Hid _ := hL
  have HHS : Hid _ := hhs
  have HLB : Hid _ := hLb
  clear hq hL hLb SG hT1 hT hB
  rw [← HL.out, ← HQ.out]
  go_enter Tryd.func60, Tryd.ntmps60
  rw [show (Value.agg (U32 hs).toArray) = Value.agg #[.int .u32 l0, .int .u32 l1, .int .u32 l2, .int .u32 l3, .int .u32 l4, .int .u32 l5, .int .u32 l6, .int .u32 l7] by rw [HHS.out]; rfl]
  clear hhs
  go_wp2
  rw [← hW]
  clear hW
  go_region_held3 (fun W => W.cell? ⟨w.heap.size + 1, 0, none⟩ = some (.int .i64 2) ∧ W.cell? ⟨w.heap.size + 1, 1, none⟩ = some (.int .i64 13) ∧ W.cell? ⟨w.heap.size + 1, 2, none⟩ = some (.int .i64 22) ∧ W.cell? ⟨w.heap.size + 1, 3, none⟩ = some (.int .i64 6) ∧ W.cell? ⟨w.heap.size + 1, 4, none⟩ = some (.int .i64 11) ∧ W.cell? ⟨w.heap.size + 1, 5, none⟩ = some (.int .i64 25) ∧ W.cell? ⟨w.heap.size + 1, 6, none⟩ = some (.int .i64 7) ∧ W.cell? ⟨w.heap.size + 1, 7, none⟩ = some (.int .i64 18) ∧ W.cell? ⟨w.heap.size + 1, 8, none⟩ = some (.int .i64 3) ∧ W.cell? ⟨w.heap.size + 1, 9, none⟩ = some (.int .i64 17) ∧ W.cell? ⟨w.heap.size + 1, 10, none⟩ = some (.int .i64 19) ∧ W.cell? ⟨w.heap.size + 1, 11, none⟩ = some (.int .i64 10) ∧ W.cell? ⟨w.heap.size + 1, 12, none⟩ = some (.slice (some ⟨rb, 0, none⟩) 64 64))
    (exact SGd.all)
    ((first
      | (go_at_call 89; refine (HP.out _ hTd).mono ?_; rintro e w2 ⟨v2, rfl, ho2, hb2⟩; replace SGd := SGd.go hb2; obtain ⟨a2, c2, rfl, _, hx2⟩ := Bs.own ho2 HLB.out; have hoff := off_of_own ho2 hWs)
      | (go_at_call 55; refine (takeBlocksCn w.heap.size hs a2 q c2 rb L _ SGd.ar hl hx2 hoff SGd.rb (by omega)).mono ?_; rintro e w3 ⟨a3, c3, rfl, _, _, hA3, hg3⟩; replace SGd := SGd.turn hg3 hA3 hrl)))
  obtain ⟨st, hst⟩ : ∃ st, st = fld hs L (q / 64) := ⟨_, rfl⟩
  have hstl : st.length = 8 := by rw [hst]; exact fld_len hl _ _
  have hstw : ∀ x ∈ st, 0 ≤ x ∧ x < 4294967296 := by rw [hst]; exact fld_word hw _ _
  have SG3 : Sgn w w3 rb st := by rw [hst]; exact SGd
  have HST : Hid _ := hst
  have hsz3 := SG3.ru.lt
  have hsz : (Tryd.prog.info? 65).map (·.size) = some 8 := by kernel_rfl
  have hSA := SG3.ar
  have hb3 := SG3.fr
  clear hst SGd hw hl hx2 ho2 hb2 hA3 hg3 hTd SG3 HP HLB
  go_wp2_with (refine wpList_load_row rfl 65 _ rfl w.heap.size rfl 65 (U32 st).toArray (0, 0) _ hSA Tryd.underlying65 rfl (by simpa [hstl] using hsz) ?_)
  go_loopw [9, 18] (fun v i wr => ∃ k m : Nat, m = 4 * k ∧ k ≤ 8 ∧ i = .int .i64 k ∧ wr.ownsRow w3.heap.size 5 1 v m (U8 (sumB (st.take k))) ∧ Below w3.heap.size w3 wr) (fun _ i _ => 8 - (intOf i).toNat)
  case atStart => exact ⟨0, 0, rfl, by omega, rfl, by simpa [sumB] using World.ownsRow_nil _ _ _ _, Below.refl _ _⟩
  case round =>
    obtain ⟨k, m, hm, hk, rfl, hown, hb⟩ := hrel
    by_cases hlt : k < 8
    · have ix := fun w => index_arr Tryd.underlying65 Tryd.underlying63 infoCn st hstl k hlt w
      obtain ⟨x, hx⟩ : ∃ x, x = st.getD k 0 := ⟨_, rfl⟩
      rw [← hx] at ix
      obtain ⟨hx0, hx1⟩ : 0 ≤ x ∧ x < 4294967296 := by rw [hx]; exact hstw _ (gD_mem (by omega))
      have hsn := tksnn st k (by omega)
      rw [← hx] at hsn
      have HN : Hid (sumB (st.take (k + 1)) = sumB (st.take k) ++ hbk x 4 4) := by unfold Hid; rw [hbn]; exact sumB_snoc hsn
      have HM : Hid _ := hm
      have hm60 : m ≤ 100 := by omega
      clear hx hsn hm
      have hk8 : (k : Int) < 8 := by omega
      have hcv : IntKind.u64.wrap x = x := by simp [IntKind.wrap, IntKind.signed, IntKind.bits]; omega
      have hws := hb.size
      have hH := highFirst w3.heap.size m _ (sumB (st.take k)) x 4 wr hown hws (by omega) (by omega) hx0 (by omega)
      go_wp2_with (go_at_call 87; refine (wordBytesn _).mono ?_; rintro e w' ⟨rfl, hw'⟩; rw [hw']; clear hw' w')
      refine hH.mono ?_
      rintro e w4 ⟨v4, rfl, ho4, hb4⟩
      have hb5 := hb.trans hb4
      have HR : Hid (w4.ownsRow w3.heap.size 5 1 v4 (m + 4) (U8 (sumB (st.take (k + 1))))) := by unfold Hid; rw [HN.out]; exact ho4
      clear hH ho4 hb4 hown hb HN
      go_wp2
      go_roundw
      case rel => exact ⟨k + 1, m + 4, by have := HM.out; omega, by omega, by go_num, HR.out, hb5⟩
      case measure => simp [intOf]; omega
    · obtain rfl : k = 8 := by omega
      obtain rfl : m = 32 := hm
      rw [List.take_of_length_le (show st.length ≤ 8 by omega), HST.out] at hown
      go_wp2
      go_ret
      exact ⟨_, rfl, own_base hown (by omega), hb3.trans (hb.mono (by omega))⟩
end Go.Proofs.YtgapfkiceolceaaDoor

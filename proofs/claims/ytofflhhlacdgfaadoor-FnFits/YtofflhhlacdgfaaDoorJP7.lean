/-
  What is proved here: the contract of the program's shaSum at words of 32 bits: the words go through the tail, the mark, the zeros and the length, and their bytes are told; contracts of the program's and of the specification's ShaOk, for every value whose two slices hold at most 2^21 elements each; the contract of the laws' eqByteS; contracts of two helpers of the exact laws (copy a slice of bytes, hold two against each other), for every slice of at most 2^21 bytes; plain facts on rows that a call owns: how they lie apart, and how they stay while another is written; no program is spoken of, no condition; the contract of the laws' count of a slice of ints; the contract of the laws' count of a slice of bytes; contracts of the laws' helpers on a Sha (copy, hold two against each other, count), and of the program's ShaOk, for every value whose slices hold at most 2^21 elements each; the contract of the specification's l2turn; and a name for what the program's tables hold.
-/
import Derived.Test.YtofflhhlacdgfaaDoorJP6
import Derived.Test.YtofflhhlacdgfaaDoorJP1
import Derived.Test.YtofflhhlacdgfaaDoorJP2
import Derived.Deep.RegionHeld3
import Derived.BigRegion
import Derived.Test.YtofflhhlacdgfaaDoorProg
import Derived.Deep.QuietTactic
import Derived.BigQuiet
import Derived.Laws.Rows
import Derived.Test.YtofflhhlacdgfaaDoorJP3
import Derived.Deep.Light
import Derived.Deep.RegionWith
namespace Go.Proofs.YtofflhhlacdgfaaDoor
open Go.RowKit
set_option maxRecDepth 100000

theorem gD_mem {xs : List Int} {k : Nat} (hk : k < xs.length) : xs.getD k 0 ∈ xs := by
  rw [List.getD_eq_getElem?_getD, List.getElem?_eq_getElem hk]; exact List.getElem_mem _
theorem hbn (x : Int) : hbk x 4 4 = b4 x := by
  simp [hbk, b4, List.range_succ]

/-- What the way to the sum holds: the box of the words and the box of the rules. -/
structure Sgn (w W : World) (rb : Nat) (st : List Int) : Prop where
  fr : Below w.heap.size w W
  ar : Arr W w.heap.size 134 (U32 st)
  ru : Arr W (w.heap.size + 1) 142 [.int .i64 2, .int .i64 13, .int .i64 22, .int .i64 6, .int .i64 11, .int .i64 25, .int .i64 7, .int .i64 18, .int .i64 3, .int .i64 17, .int .i64 19, .int .i64 10, .slice (some ⟨rb, 0, none⟩) 64 64]
  rb : Arr W rb 158 (U32 KS)
theorem Sgn.all {w W : World} {rb : Nat} {st : List Int} (h : Sgn w W rb st) : W.cell? ⟨w.heap.size + 1, 0, none⟩ = some (.int .i64 2) ∧ W.cell? ⟨w.heap.size + 1, 1, none⟩ = some (.int .i64 13) ∧ W.cell? ⟨w.heap.size + 1, 2, none⟩ = some (.int .i64 22) ∧ W.cell? ⟨w.heap.size + 1, 3, none⟩ = some (.int .i64 6) ∧ W.cell? ⟨w.heap.size + 1, 4, none⟩ = some (.int .i64 11) ∧ W.cell? ⟨w.heap.size + 1, 5, none⟩ = some (.int .i64 25) ∧ W.cell? ⟨w.heap.size + 1, 6, none⟩ = some (.int .i64 7) ∧ W.cell? ⟨w.heap.size + 1, 7, none⟩ = some (.int .i64 18) ∧ W.cell? ⟨w.heap.size + 1, 8, none⟩ = some (.int .i64 3) ∧ W.cell? ⟨w.heap.size + 1, 9, none⟩ = some (.int .i64 17) ∧ W.cell? ⟨w.heap.size + 1, 10, none⟩ = some (.int .i64 19) ∧ W.cell? ⟨w.heap.size + 1, 11, none⟩ = some (.int .i64 10) ∧ W.cell? ⟨w.heap.size + 1, 12, none⟩ = some (.slice (some ⟨rb, 0, none⟩) 64 64) :=
  ⟨h.ru.cell 0, h.ru.cell 1, h.ru.cell 2, h.ru.cell 3, h.ru.cell 4, h.ru.cell 5, h.ru.cell 6, h.ru.cell 7, h.ru.cell 8, h.ru.cell 9, h.ru.cell 10, h.ru.cell 11, h.ru.cell 12⟩
theorem Sgn.go {w A B : World} {rb : Nat} {st : List Int} (h : Sgn w A rb st) (hb : Below A.heap.size A B) : Sgn w B rb st :=
  ⟨h.fr.trans (hb.mono h.fr.size), h.ar.kept hb, h.ru.kept hb, h.rb.kept hb⟩
theorem Sgn.turn {w A B : World} {rb : Nat} {st st' : List Int} (h : Sgn w A rb st) (hg : A.grownBy B (some w.heap.size)) (ha : Arr B w.heap.size 134 (U32 st')) (hr : rb < w.heap.size) : Sgn w B rb st' :=
  ⟨h.fr.grown hg h.fr.size (fun j e => by cases e; exact Nat.le_refl _), ha, (hg.block _ h.ru.lt (fun e => by injection e with e; omega)).trans h.ru, (hg.block _ h.rb.lt (fun e => by injection e with e; omega)).trans h.rb⟩

set_option maxHeartbeats 2000000 in
theorem sumCn (hs : List Int) (a : Option Addr) (n c rb : Nat) (ts : List Int) (N : Int) (w : World) (hl : hs.length = 8) (hw : ∀ x ∈ hs, 0 ≤ x ∧ x < 4294967296) (hT : Bs w a n c ts) (h0 : 0 ≤ N) (h1 : N ≤ 20000) (hn : n ≤ 20000) (hrb : Arr w rb 158 (U32 KS)) :
    Calls Tryd.prog 118 #[.agg (U32 hs).toArray, .slice a n c, .int .i64 N, rulesVn rb] w fun e w' => ∃ v, e = .returned v ∧ w'.ownsRow w.heap.size 5 1 v 32 (U8 (sumB (fld hs (ts ++ pdn n N) ((n + (zfn n + 9)) / 64)))) ∧ Below w.heap.size w w' := by
  have hrl := hrb.lt
  obtain ⟨W, hW⟩ : ∃ W, W = (w.alloc (.cells (U32 hs).toArray 134)).alloc (.cells #[.int .i64 2, .int .i64 13, .int .i64 22, .int .i64 6, .int .i64 11, .int .i64 25, .int .i64 7, .int .i64 18, .int .i64 3, .int .i64 17, .int .i64 19, .int .i64 10, .slice (some ⟨rb, 0, none⟩) 64 64] 142) := ⟨_, rfl⟩
  have hB : Below w.heap.size w W := by rw [hW]; exact ((Below.refl _ _).alloc (Nat.le_refl _) _).alloc (by simp) _
  have SG : Sgn w W rb hs := by
    refine ⟨hB, ?_, ?_, hrb.kept hB⟩
    · rw [hW]; exact (Arr.new w (U32 hs) _).alloc _
    · rw [hW]
      have := Arr.new (w.alloc (.cells (U32 hs).toArray 134)) [.int .i64 2, .int .i64 13, .int .i64 22, .int .i64 6, .int .i64 11, .int .i64 25, .int .i64 7, .int .i64 18, .int .i64 3, .int .i64 17, .int .i64 19, .int .i64 10, .slice (some ⟨rb, 0, none⟩) 64 64] 142
      rw [World.size_alloc] at this
      exact this
  have hT1 := hT.below hB
  obtain ⟨l0, l1, l2, l3, l4, l5, l6, l7, hhs⟩ := list8 hl
  rw [hhs, show (U32 [l0, l1, l2, l3, l4, l5, l6, l7]).toArray = #[.int .u32 l0, .int .u32 l1, .int .u32 l2, .int .u32 l3, .int .u32 l4, .int .u32 l5, .int .u32 l6, .int .u32 l7] from rfl] at hW
  have SGd : Sgn w W.drew rb hs := SG.go (Below.refl _ _).drew
  have hWs : w.heap.size < W.drew.heap.size := SGd.ar.lt
  have hTd : Bs W.drew a n c ts := hT1.below (Below.refl _ _).drew
  obtain ⟨L, hL⟩ : ∃ L, L = ts ++ pdn n N := ⟨_, rfl⟩
  have hLl : L.length = n + (zfn n + 9) := by rw [hL]; simp [pdn_len, hT.2.1]
  have hLb : ∀ x ∈ L, 0 ≤ x ∧ x < 256 := by
    rw [hL]
    intro x hx
    rcases List.mem_append.1 hx with h | h
    · exact hT.2.2.2.1 x h
    · exact pdn_byte n N x h
  obtain ⟨q, hq⟩ : ∃ q, q = n + (zfn n + 9) := ⟨_, rfl⟩
  have HP : Hid (∀ Z, Bs Z a n c ts → Calls Tryd.prog 133 #[.slice a n c, .int .i64 N] Z fun e w' => ∃ v, e = .returned v ∧ w'.ownsRow Z.heap.size 5 1 v q (U8 L) ∧ Below Z.heap.size Z w') := by
    unfold Hid
    intro Z hz
    rw [hL, hq]
    exact paddedCn a n c ts N Z hz h0 h1 hn
  rw [← hq] at hLl
  have HQ : Hid _ := hq
  have HL : Hid _ := hL
  have HHS : Hid _ := hhs
  have HLB : Hid _ := hLb
  clear hq hL hLb SG hT1 hT hB
  rw [← HL.out, ← HQ.out]
  go_enter Tryd.func118, Tryd.ntmps118
  rw [show (Value.agg (U32 hs).toArray) = Value.agg #[.int .u32 l0, .int .u32 l1, .int .u32 l2, .int .u32 l3, .int .u32 l4, .int .u32 l5, .int .u32 l6, .int .u32 l7] by rw [HHS.out]; rfl]
  clear hhs
  go_wp2
  rw [← hW]
  clear hW
  go_region_held3 (fun W => W.cell? ⟨w.heap.size + 1, 0, none⟩ = some (.int .i64 2) ∧ W.cell? ⟨w.heap.size + 1, 1, none⟩ = some (.int .i64 13) ∧ W.cell? ⟨w.heap.size + 1, 2, none⟩ = some (.int .i64 22) ∧ W.cell? ⟨w.heap.size + 1, 3, none⟩ = some (.int .i64 6) ∧ W.cell? ⟨w.heap.size + 1, 4, none⟩ = some (.int .i64 11) ∧ W.cell? ⟨w.heap.size + 1, 5, none⟩ = some (.int .i64 25) ∧ W.cell? ⟨w.heap.size + 1, 6, none⟩ = some (.int .i64 7) ∧ W.cell? ⟨w.heap.size + 1, 7, none⟩ = some (.int .i64 18) ∧ W.cell? ⟨w.heap.size + 1, 8, none⟩ = some (.int .i64 3) ∧ W.cell? ⟨w.heap.size + 1, 9, none⟩ = some (.int .i64 17) ∧ W.cell? ⟨w.heap.size + 1, 10, none⟩ = some (.int .i64 19) ∧ W.cell? ⟨w.heap.size + 1, 11, none⟩ = some (.int .i64 10) ∧ W.cell? ⟨w.heap.size + 1, 12, none⟩ = some (.slice (some ⟨rb, 0, none⟩) 64 64))
    (exact SGd.all)
    ((first
      | (go_at_call 133; refine (HP.out _ hTd).mono ?_; rintro e w2 ⟨v2, rfl, ho2, hb2⟩; replace SGd := SGd.go hb2; obtain ⟨a2, c2, rfl, _, hx2⟩ := Bs.own ho2 HLB.out; have hoff := off_of_own ho2 hWs)
      | (go_at_call 115; refine (takeBlocksCn w.heap.size hs a2 q c2 rb L _ SGd.ar hl hx2 hoff SGd.rb (by omega)).mono ?_; rintro e w3 ⟨a3, c3, rfl, _, _, hA3, hg3⟩; replace SGd := SGd.turn hg3 hA3 hrl)))
  obtain ⟨st, hst⟩ : ∃ st, st = fld hs L (q / 64) := ⟨_, rfl⟩
  have hstl : st.length = 8 := by rw [hst]; exact fld_len hl _ _
  have hstw : ∀ x ∈ st, 0 ≤ x ∧ x < 4294967296 := by rw [hst]; exact fld_word hw _ _
  have SG3 : Sgn w w3 rb st := by rw [hst]; exact SGd
  have HST : Hid _ := hst
  have hsz3 := SG3.ru.lt
  have hsz : (Tryd.prog.info? 134).map (·.size) = some 8 := by kernel_rfl
  have hSA := SG3.ar
  have hb3 := SG3.fr
  clear hst SGd hw hl hx2 ho2 hb2 hA3 hg3 hTd SG3 HP HLB
  go_wp2_with (refine wpList_load_row rfl 134 _ rfl w.heap.size rfl 134 (U32 st).toArray (0, 0) _ hSA Tryd.underlying134 rfl (by simpa [hstl] using hsz) ?_)
  go_loopw [9, 18] (fun v i wr => ∃ k m : Nat, m = 4 * k ∧ k ≤ 8 ∧ i = .int .i64 k ∧ wr.ownsRow w3.heap.size 5 1 v m (U8 (sumB (st.take k))) ∧ Below w3.heap.size w3 wr) (fun _ i _ => 8 - (intOf i).toNat)
  case atStart => exact ⟨0, 0, rfl, by omega, rfl, by simpa [sumB] using World.ownsRow_nil _ _ _ _, Below.refl _ _⟩
  case round =>
    obtain ⟨k, m, hm, hk, rfl, hown, hb⟩ := hrel
    by_cases hlt : k < 8
    · have ix := fun w => index_arr Tryd.underlying134 Tryd.underlying132 infoCn st hstl k hlt w
      obtain ⟨x, hx⟩ : ∃ x, x = st.getD k 0 := ⟨_, rfl⟩
      rw [← hx] at ix
      obtain ⟨hx0, hx1⟩ : 0 ≤ x ∧ x < 4294967296 := by rw [hx]; exact hstw _ (gD_mem (by omega))
      have hsn := tksnn st k (by omega)
      rw [← hx] at hsn
      have HN : Hid (sumB (st.take (k + 1)) = sumB (st.take k) ++ hbk x 4 4) := by unfold Hid; rw [hbn]; exact sumB_snoc hsn
      have HM : Hid _ := hm
      have hm60 : m ≤ 100 := by omega
      clear hx hsn hm
      have hk8 : (k : Int) < 8 := by omega
      have hcv : IntKind.u64.wrap x = x := by simp [IntKind.wrap, IntKind.signed, IntKind.bits]; omega
      have hws := hb.size
      have hH := highFirst w3.heap.size m _ (sumB (st.take k)) x 4 wr hown hws (by omega) (by omega) hx0 (by omega)
      go_wp2_with (go_at_call 131; refine (wordBytesn _).mono ?_; rintro e w' ⟨rfl, hw'⟩; rw [hw']; clear hw' w')
      refine hH.mono ?_
      rintro e w4 ⟨v4, rfl, ho4, hb4⟩
      have hb5 := hb.trans hb4
      have HR : Hid (w4.ownsRow w3.heap.size 5 1 v4 (m + 4) (U8 (sumB (st.take (k + 1))))) := by unfold Hid; rw [HN.out]; exact ho4
      clear hH ho4 hb4 hown hb HN
      go_wp2
      go_roundw
      case rel => exact ⟨k + 1, m + 4, by have := HM.out; omega, by omega, by go_num, HR.out, hb5⟩
      case measure => simp [intOf]; omega
    · obtain rfl : k = 8 := by omega
      obtain rfl : m = 32 := hm
      rw [List.take_of_length_le (show st.length ≤ 8 by omega), HST.out] at hown
      go_wp2
      go_ret
      exact ⟨_, rfl, own_base hown (by omega), hb3.trans (hb.mono (by omega))⟩
end Go.Proofs.YtofflhhlacdgfaaDoor
namespace Go.Proofs.YtofflhhlacdgfaaDoor
open Go.RowKit

/-- The document's ShaOk. -/
def shaOk (hs : List Int) (N : Int) (ts : List Int) : Bool := isW hs && (decide (0 ≤ N) && (decide (N ≤ 20000) && decide ((ts.length : Int) = N % 64)))

/-- A Sha as a value. -/
abbrev shaV (aH : Option Addr) (nH cH : Nat) (N : Int) (aT : Option Addr) (nT cT : Nat) : Value := .agg #[.slice aH nH cH, .int .i64 N, .slice aT nT cT]

set_option maxHeartbeats 1000000 in
theorem shaOpen (aH : Option Addr) (nH cH : Nat) (N : Int) (aT : Option Addr) (nT cT : Nat) (hs ts : List Int) (w : World) (hH : Is w aH nH cH hs) (hT : Bs w aT nT cT ts) :
    Calls Tryd.prog 114 #[shaV aH nH cH N aT nT cT] w fun e w' => ∃ l : List Int, e = .returned (.tuple #[.agg (U32 l).toArray, .bool (shaOk hs N ts)]) ∧ l.length = 8 ∧ (shaOk hs N ts = true → l = hs) ∧ Below w.heap.size w w' := by
  have htl := hT.2.1
  clear hT
  obtain ⟨W, hW⟩ : ∃ W, W = (w.alloc (.cells #[.slice aH nH cH, .int .i64 N, .slice aT nT cT] 95)).alloc (.cells (U32 [0, 0, 0, 0, 0, 0, 0, 0]).toArray 134) := ⟨_, rfl⟩
  have hB : Below w.heap.size w W := by rw [hW]; exact ((Below.refl _ _).alloc (Nat.le_refl _) _).alloc (by simp) _
  have hA0 : Arr W w.heap.size 95 [.slice aH nH cH, .int .i64 N, .slice aT nT cT] := by rw [hW]; exact (Arr.new w _ _).alloc _
  have hA1 : Arr W (w.heap.size + 1) 134 (U32 [0, 0, 0, 0, 0, 0, 0, 0]) := by
    rw [hW]
    have := Arr.new (w.alloc (.cells #[.slice aH nH cH, .int .i64 N, .slice aT nT cT] 95)) (U32 [0, 0, 0, 0, 0, 0, 0, 0]) 134
    simpa using this
  go_enter Tryd.func114, Tryd.ntmps114
  go_wp2_with fail
  rw [show (w.alloc (.cells #[.slice aH nH cH, .int .i64 N, .slice aT nT cT] 95)).alloc (.cells #[.int .u32 0, .int .u32 0, .int .u32 0, .int .u32 0, .int .u32 0, .int .u32 0, .int .u32 0, .int .u32 0] 134) = W from hW.symm]
  refine (wordsOf aH nH cH hs _ (hH.below hB)).mono ?_
  rintro e w' ⟨l, rfl, hl8, hleq, hb⟩
  have hb2 := hB.trans (hb.mono hB.size)
  have h0 := hA0.kept hb
  have h1 := hA1.kept hb
  have HL : Hid _ := hleq
  clear hA0 hA1 hB hW hleq hb
  obtain ⟨l0, l1, l2, l3, l4, l5, l6, l7, rfl⟩ := list8 hl8
  obtain ⟨q, hq⟩ : ∃ q, q = isW hs := ⟨_, rfl⟩
  have HE : Hid (shaOk hs N ts = (q && (decide (0 ≤ N) && (decide (N ≤ 20000) && decide ((ts.length : Int) = N % 64))))) := by unfold Hid; rw [hq]; rfl
  have hq' : q = false ∨ q = true := by cases q <;> simp
  rw [← hq]
  rw [← hq] at HL
  have hN := h0.cell 1
  have hT := h0.cell 2
  simp at hN hT
  have r0 := h1.u32 0 (by simp)
  have r1 := h1.u32 1 (by simp)
  have r2 := h1.u32 2 (by simp)
  have r3 := h1.u32 3 (by simp)
  have r4 := h1.u32 4 (by simp)
  have r5 := h1.u32 5 (by simp)
  have r6 := h1.u32 6 (by simp)
  have r7 := h1.u32 7 (by simp)
  have f0 := h1.frozen
  simp at r0 r1 r2 r3 r4 r5 r6 r7
  have hlt := h1.lt
  have hlt0 := h0.lt
  clear hq
  rcases hq' with rfl | rfl
  · go_wp2
    go_region
    go_wp2
    refine bodyPost_ret (results_row_tmp (v := .bool false) (t := 134) (cs := U32 [l0, l1, l2, l3, l4, l5, l6, l7]) rfl rfl rfl ?_ Tryd.underlying134 rfl Tryd.infoSw) rfl ⟨[l0, l1, l2, l3, l4, l5, l6, l7], ?_, rfl, ?_, ?_⟩
    · refine Arr.drew (Arr.alloc ?_ _); exact h1.set8 l0 l1 l2 l3 l4 l5 l6 l7
    · rw [HE.out]; rfl
    · intro h; rw [HE.out] at h; cases h
    · refine Below.drew (Below.alloc ?_ (by simp; omega) _); exact set8_below hb2 (by omega) _ _ _ _ _ _ _ _
  · by_cases g0 : 0 ≤ N
    · by_cases g1 : N ≤ 20000
      · have e64 : N.tmod 64 = N % 64 := Int.tmod_eq_emod_of_nonneg g0
        obtain ⟨r, hr⟩ : ∃ r, r = ((nT : Int) == N % 64) := ⟨_, rfl⟩
        have HR : Hid (shaOk hs N ts = r) := by
          unfold Hid
          rw [HE.out, htl, hr]
          simp only [g0, g1, decide_true, Bool.true_and]
          rfl
        have hr' := hr.symm
        clear hr
        go_wp2
        go_region
        go_wp2
        refine bodyPost_ret (results_row_tmp (v := .bool r) (t := 134) (cs := U32 [l0, l1, l2, l3, l4, l5, l6, l7]) rfl rfl rfl ?_ Tryd.underlying134 rfl Tryd.infoSw) rfl ⟨[l0, l1, l2, l3, l4, l5, l6, l7], ?_, rfl, ?_, ?_⟩
        · refine Arr.drew (Arr.alloc ?_ _); exact h1.set8 l0 l1 l2 l3 l4 l5 l6 l7
        · rw [HR.out]
        · intro h; exact HL.out (by simp)
        · refine Below.drew (Below.alloc ?_ (by simp; omega) _); exact set8_below hb2 (by omega) _ _ _ _ _ _ _ _
      · have hd : decide (N ≤ 20000) = false := by simp; omega
        go_wp2
        go_region
        go_wp2
        refine bodyPost_ret (results_row_tmp (v := .bool false) (t := 134) (cs := U32 [l0, l1, l2, l3, l4, l5, l6, l7]) rfl rfl rfl ?_ Tryd.underlying134 rfl Tryd.infoSw) rfl ⟨[l0, l1, l2, l3, l4, l5, l6, l7], ?_, rfl, ?_, ?_⟩
        · refine Arr.drew (Arr.alloc ?_ _); exact h1.set8 l0 l1 l2 l3 l4 l5 l6 l7
        · rw [HE.out]; simp; intros; omega
        · intro h; rw [HE.out] at h; simp at h; omega
        · refine Below.drew (Below.alloc ?_ (by simp; omega) _); exact set8_below hb2 (by omega) _ _ _ _ _ _ _ _
    · have hd : decide (0 ≤ N) = false := by simp; omega
      go_wp2
      go_region
      go_wp2
      refine bodyPost_ret (results_row_tmp (v := .bool false) (t := 134) (cs := U32 [l0, l1, l2, l3, l4, l5, l6, l7]) rfl rfl rfl ?_ Tryd.underlying134 rfl Tryd.infoSw) rfl ⟨[l0, l1, l2, l3, l4, l5, l6, l7], ?_, rfl, ?_, ?_⟩
      · refine Arr.drew (Arr.alloc ?_ _); exact h1.set8 l0 l1 l2 l3 l4 l5 l6 l7
      · rw [HE.out]; simp; intros; omega
      · intro h; rw [HE.out] at h; simp at h; omega
      · refine Below.drew (Below.alloc ?_ (by simp; omega) _); exact set8_below hb2 (by omega) _ _ _ _ _ _ _ _
end Go.Proofs.YtofflhhlacdgfaaDoor
namespace Go.Proofs.YtofflhhlacdgfaaDoor
open Go.RowKit

theorem set_take (xs : List Int) (n k : Nat) (h : k < xs.length) (hn : xs.length = n) :
    (U8 (xs.take k ++ List.replicate (n - k) 0)).set k (.int .u8 (xs.getD k 0)) = U8 (xs.take (k + 1) ++ List.replicate (n - (k + 1)) 0) := by
  have e : n - k = (n - (k + 1)) + 1 := by omega
  rw [take_snoc xs k h, e, List.replicate_succ]
  have hl : (xs.take k).length = k := by simp; omega
  simp only [U8, List.map_append, List.map_cons]
  rw [List.set_append_right _ _ (by simp; omega)]
  simp [Nat.min_eq_left (show k ≤ xs.length by omega)]

set_option maxHeartbeats 400000 in
theorem eqB (a a' : Option Addr) (n cap cap' : Nat) (xs : List Int) (w : World) (h : Bs w a n cap xs) (h' : Bs w a' n cap' xs) (hn : n ≤ 2097152) :
    Calls Tryd.prog 35 #[.slice a n cap, .slice a' n cap'] w fun e w' => ∃ q, e = .returned (.bool true) ∧ w' = w.drewN q := by
  obtain ⟨_, hl, hc, hby, h⟩ := h
  obtain ⟨_, _, hc', _, h'⟩ := h'
  have hne : ((n : Int) != (n : Int)) = false := by simp
  go_enter Tryd.func35, Tryd.ntmps35
  go_wp2
  go_loopw [5] (fun i wr => ∃ k q : Nat, k ≤ n ∧ i = .int .i64 k ∧ wr = w.drewN q) (fun i _ => n - (intOf i).toNat)
  case atStart => exact ⟨0, 0, Nat.zero_le _, rfl, rfl⟩
  case round =>
    obtain ⟨k, q, hk, rfl, rfl⟩ := hrel
    by_cases hlt : k < n
    · rcases h with h | ⟨b, o, rfl, hbs, hcell⟩
      · omega
      · rcases h' with h' | ⟨b', o', rfl, hbs', hcell'⟩
        · omega
        · obtain ⟨x, hx⟩ : ∃ x, x = xs.getD k 0 := ⟨_, rfl⟩
          have hck : w.cell? ⟨b, o + k, none⟩ = some (.int .u8 x) := by rw [hx]; exact hcell k hlt
          have hck' : w.cell? ⟨b', o' + k, none⟩ = some (.int .u8 x) := by rw [hx]; exact hcell' k hlt
          have hxx : (x != x) = false := by simp
          have hlt' : (k : Int) < (n : Int) := by omega
          clear hcell hcell' hx
          go_wp2
          go_quiet (fail)
          go_wp2
          go_roundw
          case rel => exact ⟨k + 1, _, by omega, by go_num, rfl⟩
          case measure => simp [intOf]; omega
    · go_wp2
      go_ret
      exact ⟨q, rfl, rfl⟩

end Go.Proofs.YtofflhhlacdgfaaDoor
namespace Go.Proofs.YtofflhhlacdgfaaDoor
open Go.RowKit

set_option maxHeartbeats 400000 in
theorem toB (a : Option Addr) (n cap : Nat) (xs : List Int) (w : World) (h : Bs w a n cap xs) (hn : n ≤ 2097152) :
    Calls Tryd.prog 33 #[.slice a n cap] w fun e w' => ∃ v, e = .returned v ∧ w'.ownsRow w.heap.size 5 1 v n (U8 xs) ∧ Below w.heap.size w w' := by
  obtain ⟨i0, hi, hz0, hz1, hz2⟩ := info_parts Tryd.info5
  obtain ⟨_, hl, hc, _, h⟩ := h
  go_enter Tryd.func33, Tryd.ntmps33
  go_wp2_with (at_make; refine wpList_make_full _ rfl _ _ 22 rfl w.heap.size 5 i0 (.int .u8 0) 1 Tryd.underlying22 hi hz0 hz1 .i64 .i64 n n n rfl rfl rfl rfl (by rw [hz2]; omega) (by unfold maxLen; omega) (Nat.le_refl _) ?_; intro w1 hown hgrow)
  have hbel : Below w.heap.size w w1 := (Below.refl _ _).grown hgrow (Nat.le_refl _) (by intro k hk; cases hk)
  have hown0 : w1.ownsRow w.heap.size 5 1 (.slice (some ⟨w.heap.size, 0, none⟩) n n) n (U8 (xs.take 0 ++ List.replicate (n - 0) 0)) := by
    have e : (madeCells (Value.int IntKind.u8 0).cells (n * 1)).toList = U8 (xs.take 0 ++ List.replicate (n - 0) 0) := by
      rw [Nat.mul_one]; simpa [U8, Value.cells] using toList_madeCells_one (.int .u8 0) n
    rw [← e]; exact hown
  clear hown hgrow
  go_loopw [4] (fun i wr => ∃ k : Nat, k ≤ n ∧ i = .int .i64 k ∧ wr.ownsRow w.heap.size 5 1 (.slice (some ⟨w.heap.size, 0, none⟩) n n) n (U8 (xs.take k ++ List.replicate (n - k) 0)) ∧ Below w.heap.size w wr) (fun i _ => n - (intOf i).toNat)
  case atStart => exact ⟨0, Nat.zero_le _, rfl, hown0, hbel⟩
  case round =>
    obtain ⟨k, hk, rfl, hown, hb⟩ := hrel
    clear hown0 hbel
    by_cases hlt : k < n
    · rcases h with h | ⟨b, o, rfl, hbs, hcell⟩
      · omega
      · obtain ⟨x, hx⟩ : ∃ x, x = xs.getD k 0 := ⟨_, rfl⟩
        have hck : wr.cell? ⟨b, o + k, none⟩ = some (.int .u8 x) := by rw [hx]; exact (hb.cell (p := ⟨b, o + k, none⟩) hbs).trans (hcell k hlt)
        have hfz := hown.frozenAt k
        obtain ⟨u, hu⟩ : ∃ u, wr.cell? ⟨w.heap.size, k, none⟩ = some u := by
          rw [hown.cellAt k (by omega)]
          have : k < (U8 (xs.take k ++ List.replicate (n - k) 0)).length := by simp; omega
          exact ⟨_, List.getElem?_eq_getElem this⟩
        have hst := hown.stored k (.int .u8 x)
        rw [hx, set_take xs n k (by omega) hl, ← hx] at hst
        have hb2 := hb.setCell (p := ⟨w.heap.size, k, none⟩) (Nat.le_refl _) (.int .u8 x)
        have HS : Hid _ := hst
        have HB : Hid _ := hb2
        clear hst hb2 hown hcell hx
        go_wp2
        go_roundw
        case rel => exact ⟨k + 1, by omega, by go_num, HS.out.1, HB.out⟩
        case measure => simp [intOf]; omega
    · have hkn : k = n := by omega
      subst hkn
      go_wp2
      go_ret
      refine ⟨_, rfl, ?_, hb⟩
      simpa [List.take_of_length_le (show xs.length ≤ k by omega)] using hown

theorem toS (a : Option Addr) (n cap : Nat) (xs : List Int) (w : World) (h : Bs w a n cap xs) (hn : n ≤ 2097152) :
    Calls Tryd.prog 33 #[.slice a n cap] w fun e w' => ∃ a' cap', e = .returned (.slice a' n cap') ∧ w'.ownsRow w.heap.size 5 1 (.slice a' n cap') n (U8 xs) ∧ Bs w' a' n cap' xs ∧ Below w.heap.size w w' := by
  have hby := h.2.2.2.1
  refine (toB a n cap xs w h hn).mono ?_
  rintro e w' ⟨v, rfl, hown, hb⟩
  obtain ⟨a', cap', rfl, _, hbs⟩ := Bs.own hown hby
  exact ⟨a', cap', rfl, hown, hbs, hb⟩
end Go.Proofs.YtofflhhlacdgfaaDoor
namespace Go.Proofs.YtofflhhlacdgfaaDoor
open Go.RowKit

def Apart (u v : Value) : Prop := ∀ k, u.ownBlock = some k → v.ownBlock ≠ some k
theorem Apart.symm {u v : Value} (h : Apart u v) : Apart v u := fun k hk he => h k he hk
theorem apart_of {wA wB : World} {B1 B2 n1 n2 e1 e2 s1 s2 : Nat} {v1 v2 : Value} {l1 l2 : List Value} (h1 : wA.ownsRow B1 e1 s1 v1 n1 l1) (h2 : wB.ownsRow B2 e2 s2 v2 n2 l2) (hs : wA.heap.size ≤ B2) : Apart v1 v2 := by
  intro k hk he
  have e1 := (h1.lt k hk).2
  have e2 := (h2.lt k he).1
  omega

theorem own_other {w : World} {b e s n : Nat} {v : Value} {xs : List Value} (h : w.ownsRow b e s v n xs) (p : Addr) (u : Value) (hp : p.block < b) : (w.setCell p u).ownsRow b e s v n xs := by
  refine ⟨h.1, ?_⟩
  rcases h.2 with hn | ⟨g, cap, cur, rfl, hg, hgg, rest⟩
  · exact .inl hn
  · refine .inr ⟨g, cap, cur, rfl, hg, ?_, rest⟩
    rw [heap_setCell_other w p g u (by omega)]
    exact hgg

theorem is_of_own {W : World} {B n c e : Nat} {a : Option Addr} {l : List Int} (h : W.ownsRow B e 1 (.slice a n c) n (I64 l)) (hby : ∀ x ∈ l, -9223372036854775808 ≤ x ∧ x ≤ 9223372036854775807) : Is W a n c l := by
  obtain ⟨a', c', e, _, hb⟩ := Is.own h hby
  simp only [Value.slice.injEq, true_and] at e
  obtain ⟨rfl, rfl⟩ := e
  exact hb
theorem bs_of_own {W : World} {B n c : Nat} {a : Option Addr} {l : List Int} (h : W.ownsRow B 5 1 (.slice a n c) n (U8 l)) (hby : ∀ x ∈ l, 0 ≤ x ∧ x < 256) : Bs W a n c l := by
  obtain ⟨a', c', e, _, hb⟩ := Bs.own h hby
  simp only [Value.slice.injEq, true_and] at e
  obtain ⟨rfl, rfl⟩ := e
  exact hb

theorem own_kept {W W' : World} {B n e s : Nat} {u v : Value} {l : List Value} (h : W.ownsRow B e s v n l) (hg : W.grownBy W' u.ownBlock) (ha : Apart u v) : W'.ownsRow B e s v n l := by
  refine h.kept hg ?_
  cases hv : v.ownBlock with
  | none => exact .inl rfl
  | some k => exact .inr (fun e => ha k e.symm hv)

theorem below_mark {n e s : Nat} {w wr w' : World} {v : Value} {xs : List Value} (hb : Below w.heap.size w wr) (hown : wr.ownsRow w.heap.size e s v n xs) (hg : wr.grownBy w' v.ownBlock) : Below w.heap.size w w' :=
  hb.grown hg hb.size (fun k hk => (hown.lt k hk).1)

/-- Where a row's block lies. -/
def In (v : Value) (lo hi : Nat) : Prop := ∀ k, v.ownBlock = some k → lo ≤ k ∧ k < hi
theorem In.of {W : World} {B e s n : Nat} {v : Value} {l : List Value} (h : W.ownsRow B e s v n l) : In v B W.heap.size := fun k hk => h.lt k hk
theorem In.apart {u v : Value} {a b c d : Nat} (h : In u a b) (h' : In v c d) (hl : b ≤ c ∨ d ≤ a) : Apart u v := fun k hk he => by
  have := h k hk
  have := h' k he
  omega
theorem In.ne {u : Value} {a b g : Nat} (h : In u a b) (hg : g < a ∨ b ≤ g) : u.ownBlock ≠ some g := fun he => by
  have := h g he
  omega
end Go.Proofs.YtofflhhlacdgfaaDoor
namespace Go.Proofs.YtofflhhlacdgfaaDoor
open Go.RowKit

end Go.Proofs.YtofflhhlacdgfaaDoor
namespace Go.Proofs.YtofflhhlacdgfaaDoor
open Go.RowKit

set_option maxHeartbeats 1000000 in
theorem szB (a : Option Addr) (n c : Nat) (l : Int) (w : World) (h0 : 0 ≤ l) (h1 : l ≤ 1048576) (hn : n ≤ 9223372036854775807) :
    Calls Tryd.prog 98 #[.slice a n c, .int .i64 l] w fun e w' => e = .returned (.int .i64 (if l - (n : Int) < 0 then -1 else l - (n : Int))) ∧ w' = w := by
  have hw : wrap64 (l - (n : Int)) = l - (n : Int) := by unfold wrap64; omega
  by_cases hlt : l - (n : Int) < 0
  · rw [if_pos hlt]
    go_enter Tryd.func98, Tryd.ntmps98
    go_wp2
    go_ret
    exact ⟨rfl, rfl⟩
  · rw [if_neg hlt]
    go_enter Tryd.func98, Tryd.ntmps98
    go_wp2
    go_ret
    exact ⟨rfl, rfl⟩

end Go.Proofs.YtofflhhlacdgfaaDoor
namespace Go.Proofs.YtofflhhlacdgfaaDoor
open Go.RowKit

theorem c33_of {W : World} {g g' : Nat} {t t' : TypeId} {a b c a' b' c' : Value} (h : Arr W g t [a, b, c]) (h' : Arr W g' t' [a', b', c']) :
    W.cell? ⟨g, 0, none⟩ = some a ∧ W.cell? ⟨g, 1, none⟩ = some b ∧ W.cell? ⟨g, 2, none⟩ = some c ∧ W.cell? ⟨g', 0, none⟩ = some a' ∧ W.cell? ⟨g', 1, none⟩ = some b' ∧ W.cell? ⟨g', 2, none⟩ = some c' :=
  ⟨h.cell 0, h.cell 1, h.cell 2, h'.cell 0, h'.cell 1, h'.cell 2⟩

/-- What a copy of a Sha is: memory of its own, the two slices apart. -/
structure OwnSha (w W : World) (aH : Option Addr) (nH cH : Nat) (aT : Option Addr) (nT cT : Nat) (hs ts : List Int) : Prop where
  oh : W.ownsRow w.heap.size 3 1 (.slice aH nH cH) nH (I64 hs)
  ot : W.ownsRow w.heap.size 5 1 (.slice aT nT cT) nT (U8 ts)
  ap : Apart (.slice aH nH cH) (.slice aT nT cT)

end Go.Proofs.YtofflhhlacdgfaaDoor
namespace Go.Proofs.YtofflhhlacdgfaaDoor
open Go.RowKit
set_option maxRecDepth 100000

/-- The program's two tables for words of 32 bits hold what its text lays into them. -/
abbrev Tabs (w : World) : Prop := Tabn w
theorem Tabs.below {w w' : World} (h : Tabs w) (hb : Below w.heap.size w w') : Tabs w' := Tabn.kept h hb
/-- The table of first words holds what the text lays into it. -/
abbrev TabF (w : World) : Prop := Vr w 1 (U32 H0)
theorem TabF.below {w w' : World} (h : TabF w) (hb : Below w.heap.size w w') : TabF w' := Vr.kept h hb

set_option maxHeartbeats 400000 in
theorem specTurn (x : Int) (n : Nat) (hn : 0 < n) (hn2 : n < 32) (m : Int) (hm : m = (n : Int)) (w : World) :
    Calls Tryd.prog 145 #[.int .u32 x, .int .i64 m] w fun e w' => e = .returned (.int .u32 (rot x n)) ∧ ∃ q, w' = w.drewN q := by
  subst hm
  go_enter Tryd.func145, Tryd.ntmps145
  go_wp2
  go_quiet (fail)
  go_wp2
  go_ret
  exact ⟨rfl, _, rfl⟩

end Go.Proofs.YtofflhhlacdgfaaDoor

/-
  What is proved here: what a draw of bytes to be scanned (the specification's DrawScan) answers; bytes as a string, and the contract of the library's bytes.Equal at slices that are not nil; what both sides' RecGet answer.
-/
import Derived.Test.YtjceajgefpinpaaJN10
import Derived.Test.YtjceajgefpinpaaJN1
import Derived.Laws.BytesArg
import Derived.Laws.Strings
import Derived.Test.YtjceajgefpinpaaJN2
import Derived.Test.YtjceajgefpinpaaJN5
import Derived.BigQuiet
namespace Go.Proofs.Ytjceajgefpinpaa
open Go.RowKit
set_option maxRecDepth 100000
set_option maxHeartbeats 8000000
set_option linter.unusedVariables false

theorem bs_tail {w : World} {b o n c : Nat} {xs : List Int} (h : Bs w (some ⟨b, o, none⟩) (n + 1) c xs) : Bs w (some ⟨b, o + 1, none⟩) n (c - 1) xs.tail := by
  obtain ⟨_, hl, hc, hby, hr⟩ := h
  have hr' : b < w.heap.size ∧ ∀ j, j < n + 1 → w.cell? ⟨b, o + j, none⟩ = some (.int .u8 (xs.getD j 0)) := by
    rcases hr with hr | ⟨b', o', e, hlt, hcell⟩
    · omega
    · cases e; exact ⟨hlt, hcell⟩
  refine ⟨(fun h => by cases h), by rw [List.length_tail, hl]; rfl, by omega, fun x hx => hby x (List.mem_of_mem_tail hx), .inr ⟨b, o + 1, rfl, hr'.1, fun j hj => ?_⟩⟩
  have e : xs.tail.getD j 0 = xs.getD (j + 1) 0 := by cases xs <;> rfl
  rw [e, Nat.add_assoc, Nat.add_comm 1 j]
  exact hr'.2 (j + 1) (by omega)
theorem drawScan (a : Option Addr) (n c : Nat) (xs : List Int) (w : World) (h : Bs w a n c xs) (hm : n ≤ 9223372036854775807) :
    Calls Try.prog 13 #[.slice a n c] w fun e w' => ∃ (g o N cap : Nat) (ys : List Int), e = .returned (.slice (some ⟨g, o, none⟩) N cap) ∧ Bs w' (some ⟨g, o, none⟩) N cap ys ∧ (N = 256 ∨ N = 255) ∧ Below w.heap.size w w' := by
  have HBs : Hid (Bs w a n c xs) := h
  go_enter Try.func13, Try.ntmps13
  clear h
  go_wp2_with fail
  refine (curNew a n c xs _ HBs.out hm).mono ?_
  rintro e w1 ⟨rfl, hc1, hd1, hs1, hb1⟩
  obtain ⟨p, hp⟩ : ∃ p, p = w.heap.size := ⟨_, rfl⟩
  rw [← hp] at hc1 hd1 ⊢
  have hcode := hd1
  have D : Dz0 w1 w1 p a n c := ⟨hc1, World.grownBy.refl _ _⟩
  have hp0 := cur_lt hc1
  have HW : Hid (Below w.heap.size w w1) := hb1
  have HP : Hid (w.heap.size ≤ p) := by unfold Hid; omega
  clear hc1 hd1 hs1 hb1 hp HBs
  go_wp2_with fail
  refine (curHalf p a n c xs _ D.cu (hcode.grown D.gr)).mono ?_
  rintro e w2 ⟨g, cap, ys, rfl, O, hY, hc, hg⟩
  replace D := D.draw hc hg
  have HB : Hid (w2.ownsRow w1.heap.size 5 1 (.slice (some ⟨g, 0, none⟩) 256 cap) 256 (U8 ys)) := O
  have HY : Hid (byteL ys) := hY
  have hgw : w1.heap.size ≤ g := (World.ownsRow.lt O g rfl).1
  have hcap : 256 ≤ cap := by
    obtain ⟨_, hs⟩ := own_shape O
    rcases hs with ⟨h, _⟩ | ⟨g', cap', h, _, _, h3, _⟩
    · cases h
    · cases h; exact h3
  clear O hY hc hg
  go_wp2_with fail
  refine (curOnce p a n c xs _ _ D.cu (hcode.grown D.gr) (by omega)).mono ?_
  rintro e w3 ⟨q4, rfl, hc, hg⟩
  replace D := D.draw hc hg
  replace HB : Hid (w3.ownsRow w1.heap.size 5 1 (.slice (some ⟨g, 0, none⟩) 256 cap) 256 (U8 ys)) := own_p1 (w := w) HB.out hp0 hg
  clear hc hg
  cases q4
  · go_wp2_with fail
    refine (curOnce p a n c xs _ _ D.cu (hcode.grown D.gr) (by omega)).mono ?_
    rintro e w4 ⟨q20, rfl, hc, hg⟩
    replace D := D.draw hc hg
    replace HB : Hid (w4.ownsRow w1.heap.size 5 1 (.slice (some ⟨g, 0, none⟩) 256 cap) 256 (U8 ys)) := own_p1 (w := w) HB.out hp0 hg
    clear hc hg
    have BB := HW.out.grown D.gr HW.out.size (fun k hk => by injection hk with hk; have := HP.out; omega)
    have hbs := bs_of_own HB.out HY.out
    cases q20
    · have HR : Hid _ := hbs
      clear D HB hbs
      go_wp2
      go_ret
      exact ⟨_, _, _, _, _, rfl, HR.out, .inl rfl, BB⟩
    · have HR : Hid _ := bs_tail (n := 255) hbs
      have i1 : (1 : Int) ≤ (cap : Int) := by omega
      have i2 : (256 : Int) ≤ (cap : Int) := by omega
      clear D HB hbs
      go_wp2
      go_ret
      exact ⟨_, _, _, _, _, rfl, HR.out, .inr rfl, BB⟩
  · go_wp2_with fail
    refine (curBelow p a n c xs _ _ D.cu (hcode.grown D.gr) (by omega)).mono ?_
    rintro e w4 ⟨x, rfl, h0_x, h1_x, _, hc, hg⟩
    replace h1_x := h1_x (by omega)
    replace D := D.draw hc hg
    replace HB : Hid (w4.ownsRow w1.heap.size 5 1 (.slice (some ⟨g, 0, none⟩) 256 cap) 256 (U8 ys)) := own_p1 (w := w) HB.out hp0 hg
    clear hc hg
    go_wp2_with fail
    refine (curByte p a n c xs _ D.cu (hcode.grown D.gr)).mono ?_
    rintro e w5 ⟨y, rfl, hx0, hx1, hc, hg⟩
    replace D := D.draw hc hg
    replace HB : Hid (w5.ownsRow w1.heap.size 5 1 (.slice (some ⟨g, 0, none⟩) 256 cap) 256 (U8 ys)) := own_p1 (w := w) HB.out hp0 hg
    clear hc hg
    obtain ⟨j, rfl⟩ := Int.eq_ofNat_of_zero_le h0_x
    have hj : j < 256 := by omega
    have hjI : (j : Int) < 256 := by omega
    have hcv := u8c hx0 hx1
    have hfz := HB.out.frozenAt j
    have hex : ∃ u, w5.cell? ⟨g, j, none⟩ = some (.int .u8 u) := by
      obtain ⟨_, hs⟩ := own_shape HB.out
      rcases hs with ⟨h, _⟩ | ⟨g', cap', h, _, _, _, _, hc, _⟩
      · cases h
      · cases h
        exact ⟨_, hc j (by omega)⟩
    obtain ⟨u, hu⟩ := hex
    obtain ⟨X, hX⟩ : ∃ X, X = w5.setCell ⟨g, j, none⟩ (.int .u8 y) := ⟨_, rfl⟩
    have HB3 : Hid (X.ownsRow w1.heap.size 5 1 (.slice (some ⟨g, 0, none⟩) 256 cap) 256 (U8 (ys.set j y))) := by unfold Hid; rw [hX]; exact own_byte HB.out
    have HY3 : Hid (byteL (ys.set j y)) := byte_set HY.out j ⟨hx0, by omega⟩
    have D3 : Dz0 w1 X p a n c := by rw [hX]; exact D.set hgw hp0 j _
    go_upto_region 5 with fail
    rw [← hX]
    clear hX HB HY D hu hfz
    obtain ⟨zs, hzs⟩ : ∃ zs, zs = ys.set j y := ⟨_, rfl⟩
    rw [← hzs] at HB3 HY3
    clear hzs
    go_wp2_with fail
    refine (curOnce p a n c xs _ _ D3.cu (hcode.grown D3.gr) (by omega)).mono ?_
    rintro e w6 ⟨q20, rfl, hc, hg⟩
    replace D3 := D3.draw hc hg
    replace HB3 : Hid (w6.ownsRow w1.heap.size 5 1 (.slice (some ⟨g, 0, none⟩) 256 cap) 256 (U8 zs)) := own_p1 (w := w) HB3.out hp0 hg
    clear hc hg
    have BB := HW.out.grown D3.gr HW.out.size (fun k hk => by injection hk with hk; have := HP.out; omega)
    have hbs := bs_of_own HB3.out HY3.out
    cases q20
    · have HR : Hid _ := hbs
      clear D3 HB3 hbs
      go_wp2
      go_ret
      exact ⟨_, _, _, _, _, rfl, HR.out, .inl rfl, BB⟩
    · have HR : Hid _ := bs_tail (n := 255) hbs
      have i1 : (1 : Int) ≤ (cap : Int) := by omega
      have i2 : (256 : Int) ≤ (cap : Int) := by omega
      clear D3 HB3 hbs
      go_wp2
      go_ret
      exact ⟨_, _, _, _, _, rfl, HR.out, .inr rfl, BB⟩
end Go.Proofs.Ytjceajgefpinpaa
namespace Go.Proofs.Ytjceajgefpinpaa
open Go.RowKit
set_option maxRecDepth 100000

theorem str_eq {xs ys : List Int} (hx : ∀ x ∈ xs, 0 ≤ x ∧ x < 256) (hy : ∀ x ∈ ys, 0 ≤ x ∧ x < 256) : ((strOfNums xs).toList == (strOfNums ys).toList) = decide (xs = ys) := by
  have e : ∀ l : List Int, (strOfNums l).toList = l.map (fun n => UInt8.ofNat n.toNat) := fun l => by
    unfold strOfNums
    exact ByteArray.toList_mk _
  have back : ∀ l : List Int, (∀ x ∈ l, 0 ≤ x ∧ x < 256) → (l.map (fun n => UInt8.ofNat n.toNat)).map (fun u => (u.toNat : Int)) = l := by
    intro l hl
    rw [List.map_map]
    have : l.map ((fun u : UInt8 => (u.toNat : Int)) ∘ fun n : Int => UInt8.ofNat n.toNat) = l.map id := List.map_congr_left fun n hn => by
      have := hl n hn
      simp only [Function.comp, id]
      rw [UInt8.toNat_ofNat']
      omega
    rw [this, List.map_id]
  rw [e, e]
  by_cases h : xs = ys
  · subst h; simp
  · have h9 : xs.map (fun n => UInt8.ofNat n.toNat) ≠ ys.map (fun n => UInt8.ofNat n.toNat) := fun q => h (by rw [← back xs hx, ← back ys hy, q])
    rw [decide_eq_false h]
    exact beq_eq_false_iff_ne.2 h9
theorem bs_conv {w : World} {b o n c : Nat} {xs : List Int} (h : Bs w (some ⟨b, o, none⟩) n c xs) : (convert 22 9 (.slice (some ⟨b, o, none⟩) n c)).run Try.prog w = .ok (.string (strOfNums xs)) w := by
  obtain ⟨_, hl, _, _, hx⟩ := h
  refine run_convert_bytes_arg w 22 5 Try.underlying22 Try.underlying5 b o n c xs hl (fun i hi => ?_) 9 Try.underlying9
  rcases hx with hx | ⟨b', o', he, _, hcell⟩
  · omega
  · cases he
    exact hcell i hi

set_option maxHeartbeats 1000000 in
theorem equalB (b o n c b' o' m d : Nat) (xs ys : List Int) (w : World) (h : Bs w (some ⟨b, o, none⟩) n c xs) (k : Bs w (some ⟨b', o', none⟩) m d ys) :
    Calls Try.prog 52 #[.slice (some ⟨b, o, none⟩) n c, .slice (some ⟨b', o', none⟩) m d] w fun e w' => e = .returned (.bool (decide (xs = ys))) ∧ w' = w := by
  have h1 := bs_conv h
  have h2 := bs_conv k
  have e1 := str_eq h.2.2.2.1 k.2.2.2.1
  obtain ⟨s, hs⟩ : ∃ s, s = strOfNums xs := ⟨_, rfl⟩
  obtain ⟨t, ht⟩ : ∃ t, t = strOfNums ys := ⟨_, rfl⟩
  rw [← hs] at h1 e1
  rw [← ht] at h2 e1
  rw [← e1]
  clear e1 hs ht h k
  go_enter Try.func52, Try.ntmps52
  go_wp2
  go_ret
  exact ⟨rfl, rfl⟩
end Go.Proofs.Ytjceajgefpinpaa
namespace Go.Proofs.Ytjceajgefpinpaa
open Go.RowKit
set_option maxRecDepth 100000
set_option maxHeartbeats 4000000
set_option linter.unusedVariables false

/-- Eight bytes are a record. -/
def gOkB (xs : List Int) : Bool := decide (xs.length = 8) && (decide (xs.getD 4 0 = bits .xor .u8 255 (xs.getD 0 0)) && (decide (xs.getD 5 0 = bits .xor .u8 255 (xs.getD 1 0)) && (decide (xs.getD 6 0 = bits .xor .u8 255 (xs.getD 2 0)) &&
  (decide (xs.getD 7 0 = bits .xor .u8 255 (xs.getD 3 0)) && decide (rcOk (gK xs) (gB xs) (gN xs) (gF xs))))))
theorem gOkB_iff (xs : List Int) : gOkB xs = true ↔ gOk xs := by
  unfold gOkB gOk
  simp only [Bool.and_eq_true, decide_eq_true_eq]
  constructor
  · rintro ⟨h, h0, h1, h2, h3, h4⟩
    refine ⟨h, fun j hj => ?_, h4⟩
    have : j = 0 ∨ j = 1 ∨ j = 2 ∨ j = 3 := by omega
    rcases this with rfl | rfl | rfl | rfl <;> assumption
  · rintro ⟨h, h0, h4⟩
    exact ⟨h, h0 0 (by omega), h0 1 (by omega), h0 2 (by omega), h0 3 (by omega), h4⟩
theorem gOkB_not {xs : List Int} (h : ¬ gOk xs) : gOkB xs = false := by
  cases e : gOkB xs
  · rfl
  · exact absurd ((gOkB_iff xs).1 e) h
def goK (xs : List Int) : Int := if gOkB xs then gK xs else 0
def goB (xs : List Int) : Int := if gOkB xs then gB xs else 0
def goN (xs : List Int) : Int := if gOkB xs then gN xs else 0
def goF (xs : List Int) : Int := if gOkB xs then gF xs else 0
abbrev goV (xs : List Int) : Value := .tuple #[rcV (goK xs) (goB xs) (goN xs) (goF xs), .bool (gOkB xs)]
theorem goV_no {xs : List Int} (h : ¬ gOk xs) : goV xs = .tuple #[rcV 0 0 0 0, .bool false] := by simp [goV, goK, goB, goN, goF, gOkB_not h]
theorem goV_yes {xs : List Int} (h : gOk xs) : goV xs = .tuple #[rcV (gK xs) (gB xs) (gN xs) (gF xs), .bool true] := by simp [goV, goK, goB, goN, goF, (gOkB_iff xs).2 h]

theorem set4 {W : World} {g : Nat} {t : TypeId} {a b c d : Value} (h : Arr W g t [a, b, c, d]) (a' b' c' d' : Value) :
    Arr ((((W.setCell ⟨g, 0, none⟩ a').setCell ⟨g, 1, none⟩ b').setCell ⟨g, 2, none⟩ c').setCell ⟨g, 3, none⟩ d') g t [a', b', c', d'] := (((h.set 0 a').set 1 b').set 2 c').set 3 d'
theorem bel_set4 {w W : World} {B g : Nat} (h : Below B w W) (hg : B ≤ g) (a b c d : Value) : Below B w ((((W.setCell ⟨g, 0, none⟩ a).setCell ⟨g, 1, none⟩ b).setCell ⟨g, 2, none⟩ c).setCell ⟨g, 3, none⟩ d) :=
  (((h.setCell hg _).setCell hg _).setCell hg _).setCell hg _
theorem wr8 {x : Int} (h : 0 ≤ x) (h1 : x < 256) : IntKind.u8.wrap x = x := by simp [IntKind.wrap, IntKind.signed, IntKind.bits]; omega
theorem byte_at {xs : List Int} (h : ∀ x ∈ xs, 0 ≤ x ∧ x < 256) {j : Nat} (hj : j < xs.length) : 0 ≤ xs.getD j 0 ∧ xs.getD j 0 < 256 := by
  have e : xs.getD j 0 = xs[j] := by simp [hj]
  rw [e]
  exact h _ (List.getElem_mem hj)

theorem specL10get (a : Option Addr) (n cap : Nat) (xs : List Int) (w : World) (h : Bs w a n cap xs) (hn : n = 8) :
    Calls Try.prog 66 #[.slice a n cap] w fun e w' => e = .returned (goV xs) ∧ Below w.heap.size w w' := by
  subst hn
  obtain ⟨_, hl, hc, hby, h⟩ := h
  rcases h with h | ⟨b, o, rfl, hbs, hcell⟩
  · omega
  obtain ⟨V, hV⟩ : ∃ V, goV xs = V := ⟨_, rfl⟩
  rw [hV]
  have HV : Hid _ := hV
  clear hV
  obtain ⟨W, hW⟩ : ∃ W, W = w.alloc (.cells #[.int .i64 0, .int .i64 0, .int .i64 0, .int .i64 0] 29) := ⟨_, rfl⟩
  have B0 : Below w.heap.size w W := by rw [hW]; exact (Below.refl _ _).alloc (Nat.le_refl _) _
  have A0 : Arr W w.heap.size 29 [.int .i64 0, .int .i64 0, .int .i64 0, .int .i64 0] := by rw [hW]; exact Arr.new _ _ _
  have HC : Hid (∀ j, j < 8 → W.cell? ⟨b, o + j, none⟩ = some (.int .u8 (xs.getD j 0))) := fun j hj => (B0.cell (p := ⟨b, o + j, none⟩) hbs).trans (hcell j hj)
  clear hcell
  go_enter Try.func66, Try.ntmps66
  go_wp2
  rw [← hW]
  clear hW
  go_loopw [4] (fun i wr => ∃ j : Nat, j ≤ 4 ∧ i = .int .i64 j ∧ (∀ q, q < j → xs.getD (4 + q) 0 = bits .xor .u8 255 (xs.getD q 0)) ∧ Below W.heap.size W wr) (fun i _ => 4 - (intOf i).toNat)
  case atStart => exact ⟨0, by omega, rfl, by omega, Below.refl _ _⟩
  case round =>
    obtain ⟨j, hj, rfl, hall, hb⟩ := hrel
    have HL : Hid _ := hall
    clear hall
    have hbW : b < W.heap.size := Nat.lt_of_lt_of_le hbs B0.size
    by_cases hlt : j < 4
    · obtain ⟨x, hx⟩ : ∃ x, x = xs.getD j 0 := ⟨_, rfl⟩
      obtain ⟨y, hy⟩ : ∃ y, y = xs.getD (4 + j) 0 := ⟨_, rfl⟩
      have hc1 : wr.cell? ⟨b, o + j, none⟩ = some (.int .u8 x) := by rw [hx]; exact (hb.cell (p := ⟨b, o + j, none⟩) hbW).trans (HC.out j (by omega))
      have hc2 : wr.cell? ⟨b, o + (4 + j), none⟩ = some (.int .u8 y) := by rw [hy]; exact (hb.cell (p := ⟨b, o + (4 + j), none⟩) hbW).trans (HC.out (4 + j) (by omega))
      have HX : Hid _ := hx
      have HY : Hid _ := hy
      clear hx hy
      have w1 : IntKind.i64.wrap (4 + (j : Int)) = 4 + (j : Int) := by unfold IntKind.wrap; simp [IntKind.signed, IntKind.bits]; omega
      have w2 : ((4 : Int) + (j : Int)).toNat = 4 + j := by omega
      obtain ⟨z, hz⟩ : ∃ z, z = (y != bits .xor .u8 255 x) := ⟨_, rfl⟩
      go_wp2
      go_quiet (fail)
      rw [show (if IntKind.u8.signed = true then -1 else IntKind.u8.max) = (255 : Int) from rfl, ← hz]
      have hb2 : Below W.heap.size W (wr.drewN nq) := bel_dN hb nq
      generalize wr.drewN nq = W2 at hb2 ⊢
      clear hc1 hc2 hb
      cases z
      · go_wp2
        go_roundw
        case rel =>
          refine ⟨j + 1, by omega, by go_num, fun q hq => ?_, hb2⟩
          by_cases hqj : q = j
          · subst hqj
            rw [← HX.out, ← HY.out]
            simpa using hz
          · exact HL.out q (by omega)
        case measure => simp [intOf]; omega
      · have A2 := A0.kept hb2
        have c0 := A2.cell 0
        have c1 := A2.cell 1
        have c2 := A2.cell 2
        have c3 := A2.cell 3
        simp at c0 c1 c2 c3
        have fR := A2.frozen
        have lR := A2.lt
        have HK : Hid _ := set4 A2 (.int .i64 0) (.int .i64 0) (.int .i64 0) (.int .i64 0)
        have HB : Hid _ := bel_set4 (B0.trans (hb2.mono B0.size)) (Nat.le_refl w.heap.size) (.int .i64 0) (.int .i64 0) (.int .i64 0) (.int .i64 0)
        have HN : Hid (V = .tuple #[rcV 0 0 0 0, .bool false]) := by
          unfold Hid
          rw [← HV.out]
          refine goV_no fun h => ?_
          have := h.2.1 j (by omega)
          rw [← HX.out, ← HY.out] at this
          rw [this] at hz
          simp at hz
        clear A2 hz
        go_wp2
        exact bodyPost_ret (results_row_tmp (v := .bool false) (t := 29) (cs := [.int .i64 0, .int .i64 0, .int .i64 0, .int .i64 0]) rfl rfl rfl HK.out Try.underlying29 rfl (by kernel_rfl)) rfl ⟨by rw [HN.out], HB.out⟩
    · have hj4 : j = 4 := by omega
      subst hj4
      obtain ⟨x0, e0⟩ : ∃ x, x = xs.getD 0 0 := ⟨_, rfl⟩
      obtain ⟨x1, e1⟩ : ∃ x, x = xs.getD 1 0 := ⟨_, rfl⟩
      obtain ⟨x2, e2⟩ : ∃ x, x = xs.getD 2 0 := ⟨_, rfl⟩
      obtain ⟨x3, e3⟩ : ∃ x, x = xs.getD 3 0 := ⟨_, rfl⟩
      have hr0 : 0 ≤ x0 ∧ x0 < 256 := by rw [e0]; exact byte_at hby (by omega)
      have hr1 : 0 ≤ x1 ∧ x1 < 256 := by rw [e1]; exact byte_at hby (by omega)
      have hr2 : 0 ≤ x2 ∧ x2 < 256 := by rw [e2]; exact byte_at hby (by omega)
      have hr3 : 0 ≤ x3 ∧ x3 < 256 := by rw [e3]; exact byte_at hby (by omega)
      have d0 : wr.cell? ⟨b, o, none⟩ = some (.int .u8 x0) := by rw [e0]; exact (hb.cell (p := ⟨b, o, none⟩) hbW).trans (HC.out 0 (by omega))
      have d1 : wr.cell? ⟨b, o + 1, none⟩ = some (.int .u8 x1) := by rw [e1]; exact (hb.cell (p := ⟨b, o + 1, none⟩) hbW).trans (HC.out 1 (by omega))
      have d2 : wr.cell? ⟨b, o + 2, none⟩ = some (.int .u8 x2) := by rw [e2]; exact (hb.cell (p := ⟨b, o + 2, none⟩) hbW).trans (HC.out 2 (by omega))
      have d3 : wr.cell? ⟨b, o + 3, none⟩ = some (.int .u8 x3) := by rw [e3]; exact (hb.cell (p := ⟨b, o + 3, none⟩) hbW).trans (HC.out 3 (by omega))
      have hbs2 : b < wr.heap.size := Nat.lt_of_lt_of_le hbW hb.size
      have E : Hid (gK xs = x0 / 2 ∧ gB xs = x0 % 2 ∧ gN xs = x1 + 256 * (x3 % 16) ∧ gF xs = x2 + 256 * (x3 / 16)) := by unfold Hid gK gB gN gF; rw [← e0, ← e1, ← e2, ← e3]; exact ⟨rfl, rfl, rfl, rfl⟩
      have q1 : x0.tdiv 2 = x0 / 2 := Int.tdiv_eq_ediv_of_nonneg (by omega)
      have q2 : x0.tmod 2 = x0 % 2 := Int.tmod_eq_emod_of_nonneg (by omega)
      have q3 : x3.tdiv 16 = x3 / 16 := Int.tdiv_eq_ediv_of_nonneg (by omega)
      have q4 : x3.tmod 16 = x3 % 16 := Int.tmod_eq_emod_of_nonneg (by omega)
      clear e0 e1 e2 e3
      go_wp2
      try simp only [Act.put]
      refine tame [kc 22 (.slice (some ⟨b, o, none⟩) 8 cap), kc 23 (.pointer (some ⟨b, o, none⟩)), kc 24 (.int .u8 x0), kc 25 (.int .u8 (x0 / 2)), kc 26 (.int .i64 (x0 / 2)), kc 27 (.slice (some ⟨b, o, none⟩) 8 cap), kc 28 (.pointer (some ⟨b, o, none⟩)), kc 29 (.int .u8 x0), kc 30 (.int .u8 (x0 % 2)), kc 31 (.int .i64 (x0 % 2)), kc 32 (.slice (some ⟨b, o, none⟩) 8 cap), kc 33 (.pointer (some ⟨b, o + 1, none⟩)), kc 34 (.int .u8 x1), kc 35 (.int .i64 x1), kc 36 (.slice (some ⟨b, o, none⟩) 8 cap), kc 37 (.pointer (some ⟨b, o + 3, none⟩)), kc 38 (.int .u8 x3), kc 39 (.int .u8 (x3 % 16)), kc 40 (.int .i64 (x3 % 16)), kc 41 (.int .i64 (256 * (x3 % 16))), kc 42 (.int .i64 (x1 + 256 * (x3 % 16))), kc 43 (.slice (some ⟨b, o, none⟩) 8 cap), kc 44 (.pointer (some ⟨b, o + 2, none⟩)), kc 45 (.int .u8 x2), kc 46 (.int .i64 x2), kc 47 (.slice (some ⟨b, o, none⟩) 8 cap), kc 48 (.pointer (some ⟨b, o + 3, none⟩)), kc 49 (.int .u8 x3), kc 50 (.int .u8 (x3 / 16)), kc 51 (.int .i64 (x3 / 16)), kc 52 (.int .i64 (256 * (x3 / 16))), kc 53 (.int .i64 (x2 + 256 * (x3 / 16))), kc 54 (.agg #[.int .i64 (x0 / 2), .int .i64 (x0 % 2), .int .i64 (x1 + 256 * (x3 % 16)), .int .i64 (x2 + 256 * (x3 / 16))]), ka 5 29 [.int .i64 0, .int .i64 0, .int .i64 0, .int .i64 0]] 34 (by kernel_rfl) (by kernel_rfl) (by kernel_rfl) (by repeat' first | exact trivial | apply kc_keeps | apply ka_keeps | constructor) 1 (by kernel_rfl) (fun vv ll hh yW bW => ?_) (fun vv ll hh yW bW F ivh aph => ?_)
      · have k0 := (bW.cell (p := ⟨b, o, none⟩) hbs2).trans d0
        have k1 := (bW.cell (p := ⟨b, o + 1, none⟩) hbs2).trans d1
        have k2 := (bW.cell (p := ⟨b, o + 2, none⟩) hbs2).trans d2
        have k3 := (bW.cell (p := ⟨b, o + 3, none⟩) hbs2).trans d3
        refine ⟨tp (by kernel_rfl), tp ?_, tp ?_, tp ?_, tp ?_, tp (by kernel_rfl), tp ?_, tp ?_, tp ?_, tp ?_, tp (by kernel_rfl), tp ?_, tp ?_, tp ?_, tp (by kernel_rfl), tp ?_, tp ?_, tp ?_, tp ?_, tp ?_, tp ?_, tp (by kernel_rfl), tp ?_, tp ?_, tp ?_, tp (by kernel_rfl), tp ?_, tp ?_, tp ?_, tp ?_, tp ?_, tp ?_, tp (by kernel_rfl), ta (by kernel_rfl), trivial⟩
        all_goals
          simp only [fillK, putT, List.setIfInBounds_toArray, List.set_cons_zero, List.set_cons_succ]
          unfold execOp
          try go_simp
        all_goals first
          | (refine wr8 ?_ ?_ <;> omega)
          | (refine wr64 ?_ ?_ <;> omega)
      have f1 : Arr yW (ll 33) 29 [.int .i64 0, .int .i64 0, .int .i64 0, .int .i64 0] ∧ ll 33 < hh 33 := F.2.2.2.2.2.2.2.2.2.2.2.2.2.2.2.2.2.2.2.2.2.2.2.2.2.2.2.2.2.2.2.2.2.1
      have s1 := ivh 33 (by omega)
      clear F ivh aph
      obtain ⟨y, hy⟩ : ∃ z, z = yW := ⟨_, rfl⟩
      rw [← hy] at bW f1 s1 ⊢
      clear hy
      obtain ⟨K1, _⟩ := f1
      refine st_row (i := 34) (by kernel_rfl) rfl rfl rfl rfl (cells := [.int .i64 (x0 / 2), .int .i64 (x0 % 2), .int .i64 (x1 + 256 * (x3 % 16)), .int .i64 (x2 + 256 * (x3 / 16))]) K1 (by kernel_rfl) (by kernel_rfl) rfl (by kernel_rfl) (by intro v hv; simp at hv; rcases hv with rfl | rfl | rfl | rfl <;> rfl) ?_
      refine wpAny_done (by kernel_rfl) ?_ _
      have K2 : Arr (y.setCells (ll 33) 0 [.int .i64 (x0 / 2), .int .i64 (x0 % 2), .int .i64 (x1 + 256 * (x3 % 16)), .int .i64 (x2 + 256 * (x3 / 16))]) (ll 33) 29 [.int .i64 (x0 / 2), .int .i64 (x0 % 2), .int .i64 (x1 + 256 * (x3 % 16)), .int .i64 (x2 + 256 * (x3 / 16))] := (((K1.set 0 _).set 1 _).set 2 _).set 3 _
      generalize hg : ll 33 = g at K1 K2 s1 ⊢
      simp only [fillK, putT, List.setIfInBounds_toArray, List.set_cons_zero, List.set_cons_succ]
      clear d0 d1 d2 d3 q1 q2 q3 q4
      have A2 := A0.kept (hb.trans (bW.mono hb.size))
      have hPg : w.heap.size ≠ g := by have := A0.lt; have := hb.size; omega
      have A3 : Arr (y.setCells g 0 [.int .i64 (x0 / 2), .int .i64 (x0 % 2), .int .i64 (x1 + 256 * (x3 % 16)), .int .i64 (x2 + 256 * (x3 / 16))]) w.heap.size 29 [.int .i64 0, .int .i64 0, .int .i64 0, .int .i64 0] := by
        have := ((((A2.other ⟨g, 0, none⟩ (.int .i64 (x0 / 2)) hPg).other ⟨g, 1, none⟩ (.int .i64 (x0 % 2)) hPg).other ⟨g, 2, none⟩ (.int .i64 (x1 + 256 * (x3 % 16))) hPg).other ⟨g, 3, none⟩ (.int .i64 (x2 + 256 * (x3 / 16))) hPg)
        exact this
      have B2 : Below w.heap.size w (y.setCells g 0 [.int .i64 (x0 / 2), .int .i64 (x0 % 2), .int .i64 (x1 + 256 * (x3 % 16)), .int .i64 (x2 + 256 * (x3 / 16))]) := bel_set4 ((B0.trans (hb.mono B0.size)).trans (bW.mono (Nat.le_trans B0.size hb.size))) (show w.heap.size ≤ g by have := B0.size; have := hb.size; omega) _ _ _ _
      generalize y.setCells g 0 [.int .i64 (x0 / 2), .int .i64 (x0 % 2), .int .i64 (x1 + 256 * (x3 % 16)), .int .i64 (x2 + 256 * (x3 / 16))] = Y at K2 A3 B2 ⊢
      have HLL : Hid (∀ q, q < 4 → xs.getD (4 + q) 0 = bits .xor .u8 255 (xs.getD q 0)) := HL.out
      clear s1 bW hb K1 A2 B0 HL
      obtain ⟨k, hk⟩ : ∃ k, k = x0 / 2 := ⟨_, rfl⟩
      obtain ⟨bb, hbb⟩ : ∃ k, k = x0 % 2 := ⟨_, rfl⟩
      obtain ⟨nn, hnn⟩ : ∃ k, k = x1 + 256 * (x3 % 16) := ⟨_, rfl⟩
      obtain ⟨ff, hff⟩ : ∃ k, k = x2 + 256 * (x3 / 16) := ⟨_, rfl⟩
      rw [← hk, ← hbb, ← hnn, ← hff] at K2 E
      rw [← hk, ← hbb, ← hnn, ← hff]
      clear hk hbb hnn hff hr0 hr1 hr2 hr3
      have c0 := K2.cell 0
      have c1 := K2.cell 1
      have c2 := K2.cell 2
      have c3 := K2.cell 3
      simp at c0 c1 c2 c3
      go_wp2_with fail
      refine (specRecOk k bb nn ff _).mono ?_
      rintro e w5 ⟨rfl, hb5⟩
      replace K2 := K2.kept hb5
      replace A3 := A3.kept hb5
      replace B2 := B2.trans (hb5.mono B2.size)
      clear hb5 c0 c1 c2 c3
      by_cases hok : rcOk k bb nn ff
      · rw [decide_eq_true hok]
        have c0 := K2.cell 0
        have c1 := K2.cell 1
        have c2 := K2.cell 2
        have c3 := K2.cell 3
        simp at c0 c1 c2 c3
        have d0 := A3.cell 0
        have d1 := A3.cell 1
        have d2 := A3.cell 2
        have d3 := A3.cell 3
        simp at d0 d1 d2 d3
        have fR := A3.frozen
        have lR := A3.lt
        have HK : Hid _ := set4 A3 (.int .i64 k) (.int .i64 bb) (.int .i64 nn) (.int .i64 ff)
        have HB : Hid _ := bel_set4 B2 (Nat.le_refl w.heap.size) (.int .i64 k) (.int .i64 bb) (.int .i64 nn) (.int .i64 ff)
        have HN : Hid (V = .tuple #[rcV k bb nn ff, .bool true]) := by
          unfold Hid
          obtain ⟨E1, E2, E3, E4⟩ := E.out
          rw [← HV.out, goV_yes ⟨hl, HLL.out, by rw [E1, E2, E3, E4]; exact hok⟩, E1, E2, E3, E4]
        clear K2 A3 hok
        go_wp2
        exact bodyPost_ret (results_row_tmp (v := .bool true) (t := 29) (cs := [.int .i64 k, .int .i64 bb, .int .i64 nn, .int .i64 ff]) rfl rfl rfl HK.out Try.underlying29 rfl (by kernel_rfl)) rfl ⟨by rw [HN.out], HB.out⟩
      · rw [decide_eq_false hok]
        have d0 := A3.cell 0
        have d1 := A3.cell 1
        have d2 := A3.cell 2
        have d3 := A3.cell 3
        simp at d0 d1 d2 d3
        have fR := A3.frozen
        have lR := A3.lt
        have HK : Hid _ := set4 A3 (.int .i64 0) (.int .i64 0) (.int .i64 0) (.int .i64 0)
        have HB : Hid _ := bel_set4 B2 (Nat.le_refl w.heap.size) (.int .i64 0) (.int .i64 0) (.int .i64 0) (.int .i64 0)
        have HN : Hid (V = .tuple #[rcV 0 0 0 0, .bool false]) := by
          unfold Hid
          obtain ⟨E1, E2, E3, E4⟩ := E.out
          rw [← HV.out, goV_no (fun h => hok (by have := h.2.2; rw [E1, E2, E3, E4] at this; exact this))]
        clear K2 A3 hok
        go_wp2
        exact bodyPost_ret (results_row_tmp (v := .bool false) (t := 29) (cs := [.int .i64 0, .int .i64 0, .int .i64 0, .int .i64 0]) rfl rfl rfl HK.out Try.underlying29 rfl (by kernel_rfl)) rfl ⟨by rw [HN.out], HB.out⟩
theorem specRecGet (a : Option Addr) (n cap : Nat) (xs : List Int) (w : World) (h : Bs w a n cap xs) (hn : n ≤ 2097152) :
    Calls Try.prog 29 #[.slice a n cap] w fun e w' => e = .returned (goV xs) ∧ Below w.heap.size w w' := by
  obtain ⟨W, hW⟩ : ∃ W, W = w.alloc (.cells #[.int .i64 0, .int .i64 0, .int .i64 0, .int .i64 0] 29) := ⟨_, rfl⟩
  have B0 : Below w.heap.size w W := by rw [hW]; exact (Below.refl _ _).alloc (Nat.le_refl _) _
  have A0 : Arr W w.heap.size 29 [.int .i64 0, .int .i64 0, .int .i64 0, .int .i64 0] := by rw [hW]; exact Arr.new _ _ _
  have hl := h.2.1
  obtain ⟨V, hV⟩ : ∃ V, goV xs = V := ⟨_, rfl⟩
  rw [hV]
  have HV : Hid _ := hV
  clear hV
  by_cases h8 : n = 8
  case neg =>
    have h8' : ((n : Int) != 8) = true := by simp; omega
    have HN : Hid (V = .tuple #[rcV 0 0 0 0, .bool false]) := by
      unfold Hid
      rw [← HV.out, goV_no (fun h => h8 (by rw [← hl]; exact h.1))]
    clear h8
    have d0 := A0.cell 0
    have d1 := A0.cell 1
    have d2 := A0.cell 2
    have d3 := A0.cell 3
    simp at d0 d1 d2 d3
    have fR := A0.frozen
    have lR := A0.lt
    have HK : Hid _ := set4 A0 (.int .i64 0) (.int .i64 0) (.int .i64 0) (.int .i64 0)
    have HB : Hid _ := bel_set4 B0 (Nat.le_refl w.heap.size) (.int .i64 0) (.int .i64 0) (.int .i64 0) (.int .i64 0)
    clear A0 B0
    go_enter Try.func29, Try.ntmps29
    go_upto_region 1 with fail
    rw [← hW]
    clear hW
    go_wp2
    exact bodyPost_ret (results_row_tmp (v := .bool false) (t := 29) (cs := [.int .i64 0, .int .i64 0, .int .i64 0, .int .i64 0]) rfl rfl rfl HK.out Try.underlying29 rfl (by kernel_rfl)) rfl ⟨by rw [HN.out], HB.out⟩
  subst h8
  go_enter Try.func29, Try.ntmps29
  go_upto_region 1 with fail
  rw [← hW]
  clear hW
  go_wp2_with fail
  refine (specL10get a 8 cap xs _ (h.below B0) rfl).mono ?_
  rintro e w1 ⟨rfl, hb⟩
  replace A0 := A0.kept hb
  replace B0 := B0.trans (hb.mono B0.size)
  clear hb
  have d0 := A0.cell 0
  have d1 := A0.cell 1
  have d2 := A0.cell 2
  have d3 := A0.cell 3
  simp at d0 d1 d2 d3
  have fR := A0.frozen
  have lR := A0.lt
  have HK : Hid _ := set4 A0 (.int .i64 (goK xs)) (.int .i64 (goB xs)) (.int .i64 (goN xs)) (.int .i64 (goF xs))
  have HB : Hid _ := bel_set4 B0 (Nat.le_refl w.heap.size) (.int .i64 (goK xs)) (.int .i64 (goB xs)) (.int .i64 (goN xs)) (.int .i64 (goF xs))
  clear A0 B0 h
  have hV := HV.out
  unfold goV at hV ⊢
  generalize goK xs = k at *
  generalize goB xs = bb at *
  generalize goN xs = nn at *
  generalize goF xs = ff at *
  generalize gOkB xs = ok at *
  have HV2 : Hid _ := hV
  clear hV
  go_wp2
  exact bodyPost_ret (results_row_tmp (v := .bool ok) (t := 29) (cs := [.int .i64 k, .int .i64 bb, .int .i64 nn, .int .i64 ff]) rfl rfl rfl HK.out Try.underlying29 rfl (by kernel_rfl)) rfl ⟨by rw [← HV2.out], HB.out⟩
end Go.Proofs.Ytjceajgefpinpaa

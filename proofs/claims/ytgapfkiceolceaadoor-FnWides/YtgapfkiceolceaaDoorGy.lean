/-
  What is proved here: the contract of the program's Sha512 at every slice of bytes; where the program's variables hold what its text lays into them.
-/
import Derived.Test.YtgapfkiceolceaaDoorGzw
namespace Go.Proofs.YtgapfkiceolceaaDoor
open Go.RowKit
set_option maxRecDepth 100000

theorem hbk_wide (n : Nat) (hn : n ≤ 20000) : hbk (8 * (n : Int)) 16 16 = List.replicate 8 0 ++ lenB (n : Int) 8 := by
  have e : ∀ j, j < 8 → (8 * (n : Int)) / 2 ^ (8 * (16 - 1 - j)) % 256 = 0 := by
    intro j hj
    have h : (8 * (n : Int)) / 2 ^ (8 * (16 - 1 - j)) = 0 := by
      refine Int.ediv_eq_zero_of_lt (by omega) ?_
      obtain ⟨d, hd⟩ : ∃ d, 8 * (16 - 1 - j) = 64 + d := ⟨8 * (16 - 1 - j) - 64, by omega⟩
      rw [hd, Int.pow_add]
      have : (1 : Int) ≤ 2 ^ d := Int.pow_pos (by omega)
      have h64 : (2 : Int) ^ 64 = 18446744073709551616 := by decide
      rw [h64]
      omega
    rw [h]; rfl
  have r16 : List.range 16 = List.range 8 ++ (List.range 8).map (8 + ·) := by decide
  unfold hbk lenB
  rw [r16, List.map_append, List.map_map]
  congr 1
  rw [List.eq_replicate_iff]
  refine ⟨by simp, fun y hy => ?_⟩
  obtain ⟨j, hj, rfl⟩ := List.mem_map.1 hy
  exact e j (List.mem_range.1 hj)
theorem pdw_pad (n : Nat) (hn : n ≤ 20000) : pdw n (n : Int) = padW n := by
  unfold pdw padW
  rw [hbk_wide n hn]
  rfl
theorem sum_wide {xs : List Int} {n : Nat} (hl : xs.length = n) (hn : n ≤ 20000) : sumW (fldw H0W (xs ++ pdw n (n : Int)) ((n + (zfw n + 17)) / 128)) = s512 xs := by
  unfold s512 sumOfW
  rw [if_pos (by omega), hl, pdw_pad n hn]
  have e : (xs ++ padW n).length = n + (zfw n + 17) := by
    rw [List.length_append, hl, padW_len]; rfl
  rw [e]

/-- What the way to the sum reads. -/
structure Fw (w W : World) : Prop where
  fr : Below w.heap.size w W
  tb : Tabw W
  ff : Vr W 1 (U64 H0W)
theorem Fw.go {w A B : World} (h : Fw w A) (hb : Below A.heap.size A B) : Fw w B := ⟨h.fr.trans (hb.mono h.fr.size), h.tb.kept hb, h.ff.kept hb⟩
theorem Fw.all {w W : World} (h : Fw w W) {l0 l1 l2 l3 l4 l5 l6 l7 : Int} (e : H0W = [l0, l1, l2, l3, l4, l5, l6, l7]) : W.cell? ⟨1, 0, none⟩ = some (.int .u64 l0) ∧ W.cell? ⟨1, 1, none⟩ = some (.int .u64 l1) ∧ W.cell? ⟨1, 2, none⟩ = some (.int .u64 l2) ∧ W.cell? ⟨1, 3, none⟩ = some (.int .u64 l3) ∧ W.cell? ⟨1, 4, none⟩ = some (.int .u64 l4) ∧ W.cell? ⟨1, 5, none⟩ = some (.int .u64 l5) ∧ W.cell? ⟨1, 6, none⟩ = some (.int .u64 l6) ∧ W.cell? ⟨1, 7, none⟩ = some (.int .u64 l7) := by
  have := h.ff
  rw [e] at this
  exact ⟨this.cell 0, this.cell 1, this.cell 2, this.cell 3, this.cell 4, this.cell 5, this.cell 6, this.cell 7⟩

set_option maxHeartbeats 2000000 in
theorem implSha512 (a : Option Addr) (n c : Nat) (bs : List Int) (w : World) (hB : Bs w a n c bs) (ht : Tabw w) (hf : Vr w 1 (U64 H0W)) :
    Calls Tryd.prog 28 #[.slice a n c] w fun e w' => ∃ v, e = .returned v ∧ w'.ownsRow w.heap.size 5 1 v (s512 bs).length (U8 (s512 bs)) ∧ Below w.heap.size w w' := by
  have hbl := hB.2.1
  by_cases hn : n ≤ 20000
  · have hn' : ¬ ((20000 : Int) < (n : Int)) := by omega
    have hsum := sum_wide hbl hn
    have hs64 : (s512 bs).length = 64 := by unfold s512; rw [if_pos (by omega)]; exact sumOfW_len bs
    rw [hs64, ← hsum]
    clear hs64 hsum hbl
    have FW : Fw w w.drew := ⟨(Below.refl _ _).drew, ht.kept (Below.refl _ _).drew, hf.kept (Below.refl _ _).drew⟩
    have hBd : Bs w.drew a n c bs := hB.below (Below.refl _ _).drew
    obtain ⟨l0, l1, l2, l3, l4, l5, l6, l7, hH⟩ : ∃ l0 l1 l2 l3 l4 l5 l6 l7, H0W = [l0, l1, l2, l3, l4, l5, l6, l7] := ⟨_, _, _, _, _, _, _, _, rfl⟩
    have HS : Hid (∀ rb Z, Bs Z a n c bs → Arr Z rb 44 (U64 KW) → Calls Tryd.prog 71 #[.agg #[.int .u64 l0, .int .u64 l1, .int .u64 l2, .int .u64 l3, .int .u64 l4, .int .u64 l5, .int .u64 l6, .int .u64 l7], .slice a n c, .int .i64 (n : Int), rulesVw rb] Z fun e w' => ∃ v, e = .returned v ∧ w'.ownsRow Z.heap.size 5 1 v 64 (U8 (sumW (fldw H0W (bs ++ pdw n (n : Int)) ((n + (zfw n + 17)) / 128)))) ∧ Below Z.heap.size Z w') := by
      unfold Hid
      intro rb Z hz hr
      have := sumCw H0W a n c rb bs (n : Int) Z H0W_len H0W_word hz (by omega) (by omega) hn hr
      rw [show (U64 H0W).toArray = #[.int .u64 l0, .int .u64 l1, .int .u64 l2, .int .u64 l3, .int .u64 l4, .int .u64 l5, .int .u64 l6, .int .u64 l7] by rw [hH]; rfl] at this
      exact this
    have HH : Hid _ := hH
    obtain ⟨S, hS⟩ : ∃ S, S = sumW (fldw H0W (bs ++ pdw n (n : Int)) ((n + (zfw n + 17)) / 128)) := ⟨_, rfl⟩
    rw [← hS]
    rw [← hS] at HS
    clear hS hH ht hf hB
    go_enter Tryd.func28, Tryd.ntmps28
    go_wp2
    go_region_held3 (fun W => W.cell? ⟨1, 0, none⟩ = some (.int .u64 l0) ∧ W.cell? ⟨1, 1, none⟩ = some (.int .u64 l1) ∧ W.cell? ⟨1, 2, none⟩ = some (.int .u64 l2) ∧ W.cell? ⟨1, 3, none⟩ = some (.int .u64 l3) ∧ W.cell? ⟨1, 4, none⟩ = some (.int .u64 l4) ∧ W.cell? ⟨1, 5, none⟩ = some (.int .u64 l5) ∧ W.cell? ⟨1, 6, none⟩ = some (.int .u64 l6) ∧ W.cell? ⟨1, 7, none⟩ = some (.int .u64 l7))
      (exact FW.all HH.out)
      ((first
        | (go_at_call 71; refine (HS.out rb _ hBd hrb).mono ?_; rintro e w3 ⟨v3, rfl, ho3, hb3⟩; replace FW := FW.go hb3)
        | (go_at_call 69; refine (rulesCw _ FW.tb).mono ?_; rintro e w2 ⟨rb, rfl, hrb, hge, hb2⟩; have hsz2 := hb2.size; replace FW := FW.go hb2; replace hBd := hBd.below hb2)))
    go_wp2
    go_ret
    exact ⟨_, rfl, own_base ho3 (by have h : w.drew.heap.size = w.heap.size := rfl; omega), FW.fr⟩
  · have hn' : (20000 : Int) < (n : Int) := by omega
    have hs0 : s512 bs = [] := by unfold s512; rw [if_neg (by omega)]
    rw [hs0]
    clear hs0 ht hf hB hbl
    go_enter Tryd.func28, Tryd.ntmps28
    go_wp2
    go_ret
    exact ⟨_, rfl, World.ownsRow_nil _ _ _ _, Below.refl _ _⟩
end Go.Proofs.YtgapfkiceolceaaDoor

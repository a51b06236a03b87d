/-
  What is proved here: the law FnWides returns true at every code, and writes into nothing that was there; where the program's Wide, Sha512 and Round512, the specification's DrawSha512 and the laws' hashes answer as the hypotheses say.
-/
import Derived.Test.YtgapfkiceolceaaDoorDw
import Derived.Test.YtgapfkiceolceaaDoorQ4
import Derived.Test.YtgapfkiceolceaaDoorWy
import Derived.Lib.SmallJoins
namespace Go.Proofs.YtgapfkiceolceaaDoor
set_option maxRecDepth 100000
open Go.RowKit

theorem halves_get (l : List Int) (k : Nat) (hk : k < l.length) : (halves l).getD (2 * k) 0 = l.getD k 0 / 4294967296 ∧ (halves l).getD (2 * k + 1) 0 = l.getD k 0 % 4294967296 := by
  induction l generalizing k with
  | nil => simp at hk
  | cons x l ih =>
    cases k with
    | zero => simp [halves, hv2]
    | succ k =>
      have := ih k (by simpa using hk)
      have e : halves (x :: l) = x / 4294967296 :: x % 4294967296 :: halves l := rfl
      rw [e, show 2 * (k + 1) = 2 * k + 1 + 1 by omega]
      simpa using this

theorem schedW_pre (xs : List Int) (k j : Nat) (h : j < k) : ∀ d, (schedW xs (k + d)).getD j 0 = (schedW xs k).getD j 0 := by
  intro d
  induction d with
  | zero => rfl
  | succ d ih =>
    rw [← ih, show k + (d + 1) = (k + d) + 1 by omega, schedW_snoc]
    simp [List.getD, List.getElem?_append_left, schedW_len, show j < k + d by omega]
theorem schedW_step (xs : List Int) (k : Nat) (h1 : 16 ≤ k) (h2 : k < 80) : (schedW xs 80).getD k 0 = ((schedW xs 80).getD (k - 16) 0 + tS0 ((schedW xs 80).getD (k - 15) 0) + (schedW xs 80).getD (k - 7) 0 + tS1 ((schedW xs 80).getD (k - 2) 0)) % 18446744073709551616 := by
  have e : ∀ j, j < k → (schedW xs 80).getD j 0 = (schedW xs k).getD j 0 := fun j hj => by
    have := schedW_pre xs k j hj (80 - k)
    rwa [show k + (80 - k) = 80 by omega] at this
  have e' : (schedW xs 80).getD k 0 = (schedW xs (k + 1)).getD k 0 := by
    have := schedW_pre xs (k + 1) k (by omega) (80 - (k + 1))
    rwa [show k + 1 + (80 - (k + 1)) = 80 by omega] at this
  rw [e', e _ (by omega), e _ (by omega), e _ (by omega), e _ (by omega), schedW_snoc]
  have n : (schedW xs k ++ [nextWw xs (schedW xs k)]).getD k 0 = nextWw xs (schedW xs k) := by
    simp [List.getD, schedW_len]
  rw [n]
  unfold nextWw
  rw [schedW_len, if_neg (by omega)]

/-- The words that are read back, and zeros. -/
def bak (ws : List Int) (k : Nat) : List Int := ws.take k ++ List.replicate (80 - k) 0
theorem bak_len (ws : List Int) (h : ws.length = 80) (k : Nat) (hk : k ≤ 80) : (bak ws k).length = 80 := by simp [bak, h]; omega
theorem bak_set (ws : List Int) (h : ws.length = 80) (k : Nat) (hk : k < 80) (x : Int) (hx : x = ws.getD k 0) : (U64 (bak ws k)).set k (.int .u64 x) = U64 (bak ws (k + 1)) := by
  subst hx
  have e : 80 - k = (80 - (k + 1)) + 1 := by omega
  unfold bak
  rw [take_snoc ws k (by omega), e, List.replicate_succ]
  have hl : (ws.take k).length = k := by simp; omega
  simp only [U64, List.map_append, List.map_cons]
  rw [List.set_append_right _ _ (by simp; omega)]
  simp [Nat.min_eq_left (show k ≤ ws.length by omega)]
theorem bak_all (ws : List Int) (h : ws.length = 80) : bak ws 80 = ws := by simp [bak, List.take_of_length_le (show ws.length ≤ 80 by omega)]
theorem or32 {a b : Int} (h0 : 0 ≤ a) (h1 : a < 4294967296) (h2 : 0 ≤ b) (h3 : b < 4294967296) : bits .or .u64 (a * 4294967296) b = a * 4294967296 + b :=
  bits_join .u64 64 (by decide) wraps_u64 32 (a * 4294967296) b (by omega) (by omega) (by omega) h2 (by simpa using h3) (by omega)

/-- New cells that a constant text lays, as a slice of bytes. -/
theorem Bs.litW (w : World) (L : List Int) (fr : Nat × Nat) (h : ∀ u ∈ L, 0 ≤ u ∧ u < 256) : Bs (w.alloc (.cells (U8 L).toArray 5 fr)) (some ⟨w.heap.size, 0, none⟩) L.length L.length L := by
  refine ⟨(fun h => by cases h), rfl, Nat.le_refl _, h, .inr ⟨w.heap.size, 0, rfl, by simp, ?_⟩⟩
  intro j hj
  rw [World.cell?_alloc_mark]
  simp [hj]
def textW : List Int := [115, 111, 109, 101, 32, 116, 101, 120, 116]

set_option maxRecDepth 100000 in
set_option maxHeartbeats 4000000 in
theorem walk_fnWides (w : World) (ab : Option Addr) (nb cb : Nat) (bs : List Int) (hB : Bs w ab nb cb bs) (hnb : nb ≤ 140737488351232)
    (HIW : ∀ (a : Option Addr) (n c : Nat) (xs : List Int) (W : World), Below w.heap.size w W → Bs W a n c xs → Calls Tryd.prog 27 #[.slice a n c] W fun e w' => ∃ v, e = .returned (.tuple #[v, .bool (decide (xs.length = 128))]) ∧ w'.ownsRow W.heap.size 3 1 v (wideOf xs).length (I64 (wideOf xs)) ∧ Below W.heap.size W w')
    (HIS : ∀ (a : Option Addr) (n c : Nat) (xs : List Int) (W : World), Below w.heap.size w W → Bs W a n c xs → Calls Tryd.prog 28 #[.slice a n c] W fun e w' => ∃ v, e = .returned v ∧ w'.ownsRow W.heap.size 5 1 v (s512 xs).length (U8 (s512 xs)) ∧ Below W.heap.size W w')
    (HIR : ∀ (W : World), Below w.heap.size w W → Calls Tryd.prog 31 #[.int .i64 0] W fun e w' => e = .returned (.tuple #[.int .i64 (r5h 0), .int .i64 (r5l 0), .bool (r5o 0)]) ∧ Below W.heap.size W w')
    (HDS : ∀ (W : World), Below w.heap.size w W → Calls Tryd.prog 30 #[.slice ab nb cb] W fun e w' => ∃ (v : Value) (l : List Int), e = .returned v ∧ l.length ≤ 500 ∧ (∀ x ∈ l, 0 ≤ x ∧ x < 256) ∧ w'.ownsRow W.heap.size 5 1 v l.length (U8 l) ∧ Below W.heap.size W w')
    (HHS : ∀ (W : World), Below w.heap.size w W → Calls Tryd.prog 22 #[] W fun e w' => e = .returned (.bool true) ∧ Below W.heap.size W w') :
    Calls Tryd.prog 5 #[.slice ab nb cb] w fun e w' => e = .returned (.bool true) ∧ Below w.heap.size w w' := by
  have HW : Hid _ := HIW
  have HS : Hid _ := HIS
  have HR : Hid _ := HIR
  have HD : Hid _ := HDS
  have HH : Hid _ := HHS
  clear HIW HIS HIR HDS HHS
  go_enter Tryd.func5, Tryd.ntmps5
  go_wp2_with fail
  refine (drawWide ab nb cb bs _ hB (by omega)).mono ?_
  rintro e w1 ⟨v1, l, rfl, hl, hlb, o1, b1⟩
  obtain ⟨a1, c1, rfl, _, hx1⟩ := Bs.own o1 hlb
  have HLB : Hid _ := hlb
  clear hlb o1
  obtain ⟨m, hm⟩ : ∃ m, m = l.length := ⟨_, rfl⟩
  rw [← hm] at hl hx1 ⊢
  have HM : Hid _ := hm
  clear hm
  go_wp2_with fail
  refine (HW.out a1 m c1 l _ b1 hx1).mono ?_
  rintro e w2 ⟨v2, rfl, o2, b2⟩
  have B2 := b1.trans (b2.mono b1.size)
  obtain ⟨a2, c2, rfl, _, hx2⟩ := Is.own o2 (wideOf_int HLB.out)
  clear b1 b2 o2 hx1
  by_cases h128 : m = 128
  · have hd : decide (l.length = 128) = true := by rw [← HM.out]; simp [h128]
    have hw2 : wideOf l = halves (schedW l 80) := by unfold wideOf; rw [if_pos (by rw [← HM.out]; exact h128)]
    have HWD : Hid _ := schedW_word HLB.out 80
    rw [hd]
    rw [hw2] at hx2 ⊢
    have hnx : ∀ k, 16 ≤ k → k < 80 → (schedW l 80).getD k 0 = ((schedW l 80).getD (k - 16) 0 + tS0 ((schedW l 80).getD (k - 15) 0) + (schedW l 80).getD (k - 7) 0 + tS1 ((schedW l 80).getD (k - 2) 0)) % 18446744073709551616 := fun k h1 h2 => schedW_step l k h1 h2
    have hwl : (schedW l 80).length = 80 := schedW_len l 80
    obtain ⟨ws, hws⟩ : ∃ ws, ws = schedW l 80 := ⟨_, rfl⟩
    rw [← hws] at hx2 hnx hwl HWD ⊢
    have HNX : Hid _ := hnx
    have hh160 : (halves ws).length = 160 := by rw [halves_len, hwl]
    rw [hh160] at hx2 ⊢
    clear hws hnx hw2 hd
    have hz80 := zero80
    have hA0 : Arr (w2.alloc (.cells (U64 Z80).toArray 44)) w2.heap.size 44 (U64 (bak ws 0)) := Arr.new _ _ _
    have hb0 : Below w2.heap.size w2 (w2.alloc (.cells (U64 Z80).toArray 44)) := (Below.refl _ _).alloc (Nat.le_refl _) _
    have HA0 : Hid _ := hA0
    have HB0 : Hid _ := hb0
    clear hA0 hb0
    obtain ⟨b, o, rfl, hbs, hcell⟩ : ∃ b o, a2 = some ⟨b, o, none⟩ ∧ b < w2.heap.size ∧ ∀ j, j < 160 → w2.cell? ⟨b, o + j, none⟩ = some (.int .i64 ((halves ws).getD j 0)) := by
      rcases hx2.2.2.2.2 with h | h
      · omega
      · exact h
    have hc160 := hx2.2.2.1
    have HCELL : Hid _ := hcell
    clear hcell hx2
    go_wp2
    clear hz80
    go_loopw [7] (fun i wr => ∃ k : Nat, k ≤ 80 ∧ i = .int .i64 k ∧ Arr wr w2.heap.size 44 (U64 (bak ws k)) ∧ Below w2.heap.size w2 wr) (fun i _ => 80 - (intOf i).toNat)
    case atStart => exact ⟨0, by omega, rfl, HA0.out, HB0.out⟩
    case round =>
      clear HA0 HB0
      obtain ⟨k, hk, rfl, hA, hb⟩ := hrel
      by_cases hlt : k < 80
      · obtain ⟨x, hx⟩ : ∃ x, x = ws.getD k 0 := ⟨_, rfl⟩
        obtain ⟨hx0, hx1⟩ : 0 ≤ x ∧ x < 18446744073709551616 := by rw [hx]; exact HWD.out _ (getD_memW (by omega))
        have hg := halves_get ws k (by omega)
        rw [← hx] at hg
        have cA : wr.cell? ⟨b, o + 2 * k, none⟩ = some (.int .i64 (x / 4294967296)) := by rw [← hg.1]; exact (hb.cell (p := ⟨b, o + 2 * k, none⟩) hbs).trans (HCELL.out _ (by omega))
        have cB : wr.cell? ⟨b, o + (2 * k + 1), none⟩ = some (.int .i64 (x % 4294967296)) := by rw [← hg.2]; exact (hb.cell (p := ⟨b, o + (2 * k + 1), none⟩) hbs).trans (HCELL.out _ (by omega))
        have ck := hA.u64 k (by rw [bak_len ws hwl k (by omega)]; omega)
        obtain ⟨uk, huk⟩ : ∃ uk, uk = (bak ws k).getD k 0 := ⟨_, rfl⟩
        rw [← huk] at ck
        have hfz := hA.frozen k
        have hA' := hA.set k (.int .u64 x)
        rw [bak_set ws hwl k hlt x hx] at hA'
        have HA1 : Hid (Arr (wr.setCell ⟨w2.heap.size, k, none⟩ (.int .u64 x)).drew _ _ _) := hA'
        have HB1 : Hid _ := (hb.setCell (p := ⟨w2.heap.size, k, none⟩) (Nat.le_refl _) (.int .u64 x)).drew
        clear huk hg hx hA' hA
        have r0 : IntKind.i64.wrap (2 * (k : Int)) = 2 * (k : Int) := by rw [IntKind.wrap_i64]; omega
        have r1 : IntKind.i64.wrap (2 * (k : Int) + 1) = 2 * (k : Int) + 1 := by rw [IntKind.wrap_i64]; omega
        have q0 : 2 * (k : Int) < 160 := by omega
        have q1 : 2 * (k : Int) + 1 < 160 := by omega
        have p0 : (0 : Int) ≤ 2 * (k : Int) := by omega
        have p1 : (0 : Int) ≤ 2 * (k : Int) + 1 := by omega
        have j0 : (2 * (k : Int)).toNat = 2 * k := by omega
        have j1 : (2 * (k : Int) + 1).toNat = 2 * k + 1 := by omega
        have pk : (0 : Int) ≤ (k : Int) := by omega
        have qk : (k : Int) < 80 := by omega
        have v0 : IntKind.u64.wrap (x / 4294967296) = x / 4294967296 := by rw [wrap_u64]; omega
        have v1 : IntKind.u64.wrap (x % 4294967296) = x % 4294967296 := by rw [wrap_u64]; omega
        have v2 : IntKind.u64.wrap (x / 4294967296 * 4294967296) = x / 4294967296 * 4294967296 := by rw [wrap_u64]; omega
        have hor : bits .or .u64 (x / 4294967296 * 4294967296) (x % 4294967296) = x := by rw [or32 (by omega) (by omega) (by omega) (by omega)]; omega
        have hne : b ≠ w2.heap.size := by omega
        go_wp2
        go_region
        clear cA cB ck hfz hb
        go_wp2
        go_roundw
        case rel => exact ⟨k + 1, by omega, by go_num, HA1.out, HB1.out⟩
        case measure => simp [intOf]; omega
      · obtain rfl : k = 80 := by omega
        rw [bak_all ws hwl] at hA
        clear HCELL
        go_wp2
        go_loopw [8] (fun i wr => ∃ k : Nat, 16 ≤ k ∧ k ≤ 80 ∧ i = .int .i64 k ∧ Arr wr w2.heap.size 44 (U64 ws) ∧ Below w2.heap.size w2 wr) (fun i _ => 80 - (intOf i).toNat)
        case atStart => exact ⟨16, by omega, by omega, rfl, hA, hb⟩
        case round =>
          clear hA hb
          obtain ⟨k, h16, hk, rfl, hA, hb⟩ := hrel
          by_cases hlt : k < 80
          · obtain ⟨y0, e0⟩ : ∃ y, y = ws.getD k 0 := ⟨_, rfl⟩
            obtain ⟨y2, e2⟩ : ∃ y, y = ws.getD (k - 2) 0 := ⟨_, rfl⟩
            obtain ⟨y7, e7⟩ : ∃ y, y = ws.getD (k - 7) 0 := ⟨_, rfl⟩
            obtain ⟨y15, e15⟩ : ∃ y, y = ws.getD (k - 15) 0 := ⟨_, rfl⟩
            obtain ⟨y16, e16⟩ : ∃ y, y = ws.getD (k - 16) 0 := ⟨_, rfl⟩
            have c0 := hA.u64 k (by omega)
            have c2 := hA.u64 (k - 2) (by omega)
            have c7 := hA.u64 (k - 7) (by omega)
            have c15 := hA.u64 (k - 15) (by omega)
            have c16 := hA.u64 (k - 16) (by omega)
            rw [← e0] at c0
            rw [← e2] at c2
            rw [← e7] at c7
            rw [← e15] at c15
            rw [← e16] at c16
            have hv := HNX.out k h16 hlt
            rw [← e0, ← e2, ← e7, ← e15, ← e16] at hv
            have HV : Hid _ := hv
            clear e0 e2 e7 e15 e16 hv
            have i2 : ((k : Int) - 2).toNat = k - 2 := by omega
            have p2 : (2 : Int) ≤ (k : Int) := by omega
            have q2 : (k : Int) - 2 < 80 := by omega
            have r2 : IntKind.i64.wrap ((k : Int) - 2) = (k : Int) - 2 := by rw [IntKind.wrap_i64]; omega
            have i7 : ((k : Int) - 7).toNat = k - 7 := by omega
            have p7 : (7 : Int) ≤ (k : Int) := by omega
            have q7 : (k : Int) - 7 < 80 := by omega
            have r7 : IntKind.i64.wrap ((k : Int) - 7) = (k : Int) - 7 := by rw [IntKind.wrap_i64]; omega
            have i15 : ((k : Int) - 15).toNat = k - 15 := by omega
            have p15 : (15 : Int) ≤ (k : Int) := by omega
            have q15 : (k : Int) - 15 < 80 := by omega
            have r15 : IntKind.i64.wrap ((k : Int) - 15) = (k : Int) - 15 := by rw [IntKind.wrap_i64]; omega
            have i16 : ((k : Int) - 16).toNat = k - 16 := by omega
            have p16 : (16 : Int) ≤ (k : Int) := by omega
            have q16 : (k : Int) - 16 < 80 := by omega
            have r16 : IntKind.i64.wrap ((k : Int) - 16) = (k : Int) - 16 := by rw [IntKind.wrap_i64]; omega
            have pk : (0 : Int) ≤ (k : Int) := by omega
            have qk : (k : Int) < 80 := by omega
            go_wp2
            go_quiet (fail)
            go_wp2
            have eA : bits .xor .u64 (bits .xor .u64 (bits .or .u64 (y15 / 2) (IntKind.u64.wrap (y15 * 9223372036854775808))) (bits .or .u64 (y15 / 256) (IntKind.u64.wrap (y15 * 72057594037927936)))) (y15 / 128) = tS0 y15 := by simp only [wrap_u64]; rfl
            have eB : bits .xor .u64 (bits .xor .u64 (bits .or .u64 (y2 / 524288) (IntKind.u64.wrap (y2 * 35184372088832))) (bits .or .u64 (y2 / 2305843009213693952) (IntKind.u64.wrap (y2 * 8)))) (y2 / 64) = tS1 y2 := by simp only [wrap_u64]; rfl
            rw [eA, eB]
            clear eA eB
            obtain ⟨A, hAe⟩ : ∃ A, A = tS0 y15 := ⟨_, rfl⟩
            obtain ⟨B, hBe⟩ : ∃ B, B = tS1 y2 := ⟨_, rfl⟩
            rw [← hAe, ← hBe]
            have hcmp : (y0 != IntKind.u64.wrap (IntKind.u64.wrap (IntKind.u64.wrap (y16 + A) + y7) + B)) = false := by
              have hv := HV.out
              rw [← hAe, ← hBe] at hv
              have e : IntKind.u64.wrap (IntKind.u64.wrap (IntKind.u64.wrap (y16 + A) + y7) + B) = y0 := by simp only [wrap_u64]; omega
              rw [e]; simp
            clear hAe hBe HV
            go_wp2
            go_quiet (fail)
            go_wp2
            refine ⟨⟨k + 1, by omega, by omega, by go_num, hA.drewN _, bel_dN hb _⟩, ?_⟩
            simp [intOf]
            omega
          · obtain rfl : k = 80 := by omega
            have B3 := B2.trans (hb.mono B2.size)
            clear hA hb
            go_wp2_with fail
            refine (HD.out _ B3).mono ?_
            rintro e w5 ⟨v5, l5, rfl, hl5, hlb5, o5, b5⟩
            obtain ⟨a5, c5, rfl, _, hx5⟩ := Bs.own o5 hlb5
            have B5 := B3.trans (b5.mono B3.size)
            clear hlb5 o5 b5 B3
            go_wp2_with fail
            refine (HR.out _ B5).mono ?_
            rintro e w6 ⟨rfl, b6⟩
            have hx6 := hx5.below b6
            have B6 := B5.trans (b6.mono B5.size)
            clear b6 B5 hx5
            have hl64 : (s512 l5).length = 64 := by unfold s512; rw [if_pos (by omega)]; exact sumOfW_len _
            have hr0 : r5h 0 = 1116352408 ∧ r5o 0 = true := ⟨by decide, by decide⟩
            have HRO : Hid _ := hr0
            have HL64 : Hid _ := hl64
            rw [hr0.1, hr0.2]
            clear hl64 hr0
            go_wp2_with fail
            refine (HS.out a5 l5.length c5 l5 _ B6 hx6).mono ?_
            rintro e w7 ⟨v7, rfl, o7, b7⟩
            rw [HL64.out] at o7
            obtain ⟨a7, c7, rfl⟩ : ∃ a c, v7 = .slice a 64 c := by
              rcases (own_shape o7).2 with ⟨h, h0⟩ | ⟨g, cap, h, _⟩
              · omega
              · exact ⟨_, _, h⟩
            have fr := B6.trans (b7.mono B6.size)
            clear o7 b7 B6 hx6
            go_wp2
            go_ret
            exact ⟨rfl, fr⟩
  · have hd : decide (l.length = 128) = false := by rw [← HM.out]; simp [h128]
    have hw0 : wideOf l = [] := by unfold wideOf; rw [if_neg (by rw [← HM.out]; exact h128)]
    rw [hd]
    rw [hw0, List.length_nil] at hx2 ⊢
    clear hx2 hd hw0
    have hm128 : ((m : Int) != 128) = true := by simp; omega
    have hby : ∀ u ∈ textW, 0 ≤ u ∧ u < 256 := by decide
    have hbs := fun w => Bs.litW w textW (9, 10) hby
    have hcv := fun w => Lib.run_convert_bytes_const (P := Tryd.prog) w 22 5 #[.int .u8 115, .int .u8 111, .int .u8 109, .int .u8 101, .int .u8 32, .int .u8 116, .int .u8 101, .int .u8 120, .int .u8 116] 9 9 Tryd.underlying22 Tryd.underlying5
    simp only [List.size_toArray, List.length_cons, List.length_nil] at hcv
    have hbt := s512_byte textW
    have hln : (s512 textW).length = 64 := by unfold s512; rw [if_pos (by decide)]; exact sumOfW_len _
    have HI := fun a n c W hb h => HS.out a n c textW W hb h
    have HP := fun a n c w h => specSha512 a n c textW w h
    generalize s512 textW = S at HI HP hbt hln
    rw [hln] at HI HP
    have HI' : Hid _ := HI
    have HP' : Hid _ := HP
    have HBS : Hid _ := hbs
    have HBT : Hid _ := hbt
    clear HI HP hbs hbt hby
    go_wp2_with fail
    have b3 : Below w2.heap.size w2 (w2.alloc (.cells (U8 textW).toArray 5 (9, 10))) := (Below.refl _ _).alloc (Nat.le_refl _) _
    have B3 := B2.trans (b3.mono B2.size)
    refine (HI'.out (some ⟨w2.heap.size, 0, none⟩) 9 9 _ B3 (HBS.out w2)).mono ?_
    rintro e w4 ⟨v4, rfl, o4, b4⟩
    obtain ⟨a4, c4, rfl, _, _⟩ := Bs.own o4 HBT.out
    have B4 := B3.trans (b4.mono B3.size)
    clear b3 b4 B3 B2
    go_wp2_with fail
    have b5 : Below w4.heap.size w4 (w4.alloc (.cells (U8 textW).toArray 5 (9, 10))) := (Below.refl _ _).alloc (Nat.le_refl _) _
    refine (HP'.out (some ⟨w4.heap.size, 0, none⟩) 9 9 _ (HBS.out w4)).mono ?_
    rintro e w6 ⟨v6, rfl, o6, bb6⟩
    obtain ⟨a6, c6, rfl, _, hx6⟩ := Bs.own o6 HBT.out
    have b6 := b5.trans (bb6.mono b5.size)
    have B6 := B4.trans (b6.mono B4.size)
    have o4' := own_below o4 b6
    clear b5 bb6 b6 o4 o6 B4
    go_wp2_with fail
    refine (sameT a4 a6 64 c4 64 c6 S S _ (bs_of_own o4' HBT.out) hx6 rfl).mono ?_
    rintro e w7 ⟨rfl, rfl⟩
    go_wp2_with fail
    refine (HH.out _ B6).mono ?_
    rintro e w8 ⟨rfl, b8'⟩
    have fr := B6.trans (b8'.mono B6.size)
    clear b8' B6 o4' hx6
    go_wp2
    go_ret
    exact ⟨rfl, fr⟩
end Go.Proofs.YtgapfkiceolceaaDoor

/-
  What is proved here: the eight bytes of a length in bits; plain mathematics, no condition; contracts of the specification's l3sum and Sha512, for every slice of bytes.
-/
import Derived.Test.YtihoaakbkffejaaDoorZFm
import Derived.Test.YtihoaakbkffejaaDoorZWb
import Derived.Test.YtihoaakbkffejaaDoorZArr
import Derived.Deep.AppendLies
namespace Go.Proofs.YtihoaakbkffejaaDoor
open Go.RowKit

/-- The k-th byte of the length in bits, the greatest first. -/
def lenAt (N : Int) (k : Nat) : Int := 8 * N / 2 ^ (56 - 8 * k) % 256
def lenB (N : Int) (k : Nat) : List Int := (List.range k).map (lenAt N)
theorem lenB_succ (N : Int) (k : Nat) : lenB N (k + 1) = lenB N k ++ [lenAt N k] := by simp [lenB, List.range_succ]
theorem lenAt_byte (N : Int) (k : Nat) : 0 ≤ lenAt N k ∧ lenAt N k < 256 := by unfold lenAt; omega
end Go.Proofs.YtihoaakbkffejaaDoor
namespace Go.Proofs.YtihoaakbkffejaaDoor
open Go.RowKit

def zw (n : Nat) : Nat := (239 - n % 128) % 128
theorem zw_lt (n : Nat) : zw n < 128 := Nat.mod_lt _ (by omega)
theorem zw_is (n : Nat) : (n + 1 + zw n) % 128 = 112 := by unfold zw; omega
theorem zw_no (n k : Nat) (h : k < zw n) : (n + 1 + k) % 128 ≠ 112 := by unfold zw at h; omega
/-- What is padded behind a message of n bytes. -/
def padW (n : Nat) : List Int := 128 :: (List.replicate (zw n) 0 ++ (List.replicate 8 0 ++ lenB n 8))
theorem padW_len (n : Nat) : (padW n).length = zw n + 17 := by simp [padW, lenB]
/-- The words behind k blocks. -/
def fldw (hs l : List Int) : Nat → List Int
  | 0 => hs
  | k + 1 => blkw (fldw hs l k) ((l.drop (128 * k)).take 128)
theorem fldw_len {hs : List Int} (h : hs.length = 8) (l : List Int) (k : Nat) : (fldw hs l k).length = 8 := by
  induction k with
  | zero => exact h
  | succ k ih => exact blkw_len ih _
theorem fldw_word {hs : List Int} (h : ∀ x ∈ hs, 0 ≤ x ∧ x < 18446744073709551616) (l : List Int) (k : Nat) : ∀ x ∈ fldw hs l k, 0 ≤ x ∧ x < 18446744073709551616 := by
  cases k with
  | zero => exact h
  | succ k => exact blkw_word _ _
/-- The first j bytes of a word. -/
def b8 (x : Int) (j : Nat) : List Int := (List.range j).map (fun i => x / 2 ^ (56 - 8 * i) % 256)
theorem b8_succ (x : Int) (j : Nat) : b8 x (j + 1) = b8 x j ++ [x / 2 ^ (56 - 8 * j) % 256] := by simp [b8, List.range_succ]
def sumW (l : List Int) : List Int := l.flatMap (fun x => b8 x 8)
theorem sumW_len (l : List Int) : (sumW l).length = 8 * l.length := by
  induction l with
  | nil => rfl
  | cons x l ih => simp only [sumW, List.flatMap_cons, List.length_append, List.length_cons] at ih ⊢; rw [ih]; simp [b8]; omega
theorem sumW_byte (l : List Int) : ∀ y ∈ sumW l, 0 ≤ y ∧ y < 256 := by
  intro y hy
  obtain ⟨x, _, h⟩ := List.mem_flatMap.1 hy
  simp only [b8, List.mem_map] at h
  obtain ⟨i, _, rfl⟩ := h
  omega
theorem sumW_snoc {l : List Int} {k : Nat} {x : Int} (h : l.take (k + 1) = l.take k ++ [x]) : sumW (l.take (k + 1)) = sumW (l.take k) ++ b8 x 8 := by
  rw [h]; simp [sumW]
/-- The sum of a message. -/
def sumOfW (xs : List Int) : List Int := sumW (fldw H0W (xs ++ padW xs.length) ((xs ++ padW xs.length).length / 128))
def s512 (xs : List Int) : List Int := if xs.length ≤ 20000 then sumOfW xs else []
theorem sumOfW_len (xs : List Int) : (sumOfW xs).length = 64 := by
  unfold sumOfW
  rw [sumW_len, fldw_len H0W_len]
theorem padW_byte (n : Nat) : ∀ x ∈ padW n, 0 ≤ x ∧ x < 256 := by
  intro x hx
  simp only [padW, lenB, List.mem_cons, List.mem_append, List.mem_replicate, List.mem_map] at hx
  rcases hx with rfl | ⟨_, rfl⟩ | ⟨_, rfl⟩ | ⟨k, _, rfl⟩
  · omega
  · omega
  · omega
  · exact lenAt_byte _ k

/-- Eight new zero cells, as a slice of bytes. -/
theorem Bs.zero8 (w : World) : Bs (w.alloc (.cells #[.int .u8 0, .int .u8 0, .int .u8 0, .int .u8 0, .int .u8 0, .int .u8 0, .int .u8 0, .int .u8 0] 5)) (some ⟨w.heap.size, 0, none⟩) 8 8 (List.replicate 8 0) := by
  refine ⟨(fun h => by cases h), rfl, Nat.le_refl _, by decide, .inr ⟨w.heap.size, 0, rfl, by simp, ?_⟩⟩
  intro j hj
  rw [World.cell?_alloc_at _ _ _ _ rfl]
  match j, hj with
  | 0, _ => rfl
  | 1, _ => rfl
  | 2, _ => rfl
  | 3, _ => rfl
  | 4, _ => rfl
  | 5, _ => rfl
  | 6, _ => rfl
  | 7, _ => rfl

theorem own_ne {w : World} {b e s n : Nat} {v : Value} {xs : List Value} (h : w.ownsRow b e s v n xs) (p : Addr) (u : Value) (hp : v.ownBlock ≠ some p.block) : (w.setCell p u).ownsRow b e s v n xs := by
  refine ⟨h.1, ?_⟩
  rcases h.2 with hn | ⟨g, cap, cur, rfl, hg, hgg, rest⟩
  · exact .inl hn
  · refine .inr ⟨g, cap, cur, rfl, hg, ?_, rest⟩
    rw [heap_setCell_other w p g u (fun e => hp (by rw [← e]; rfl))]
    exact hgg

/-- Where the blocks' loop stands. -/
structure Lw (w W : World) (G : Nat) (st : List Int) (v : Value) (q : Nat) (l : List Int) : Prop where
  fr : Below w.heap.size w W
  g5 : Arr W G 52 (U64 st)
  ow : W.ownsRow w.heap.size 5 1 v q (U8 l)
  ge : w.heap.size ≤ G
  ne : v.ownBlock ≠ some G
theorem Lw.go {w W W' : World} {G : Nat} {st : List Int} {v : Value} {q : Nat} {l : List Int} (h : Lw w W G st v q l) (hb : Below W.heap.size W W') : Lw w W' G st v q l :=
  ⟨h.fr.trans (hb.mono h.fr.size), h.g5.kept hb, own_below h.ow hb, h.ge, h.ne⟩
theorem Lw.set8 {w W : World} {G : Nat} {a0 a1 a2 a3 a4 a5 a6 a7 : Int} {v : Value} {q : Nat} {l : List Int} (h : Lw w W G [a0, a1, a2, a3, a4, a5, a6, a7] v q l) (l0 l1 l2 l3 l4 l5 l6 l7 : Int) :
    Lw w ((((((((W.setCell ⟨G, 0, none⟩ (.int .u64 l0)).setCell ⟨G, 1, none⟩ (.int .u64 l1)).setCell ⟨G, 2, none⟩ (.int .u64 l2)).setCell ⟨G, 3, none⟩ (.int .u64 l3)).setCell ⟨G, 4, none⟩ (.int .u64 l4)).setCell ⟨G, 5, none⟩ (.int .u64 l5)).setCell ⟨G, 6, none⟩ (.int .u64 l6)).setCell ⟨G, 7, none⟩ (.int .u64 l7)) G [l0, l1, l2, l3, l4, l5, l6, l7] v q l :=
  ⟨set8_below h.fr h.ge _ _ _ _ _ _ _ _, h.g5.setW l0 l1 l2 l3 l4 l5 l6 l7,
    own_ne (own_ne (own_ne (own_ne (own_ne (own_ne (own_ne (own_ne h.ow ⟨G, 0, none⟩ _ h.ne) ⟨G, 1, none⟩ _ h.ne) ⟨G, 2, none⟩ _ h.ne) ⟨G, 3, none⟩ _ h.ne) ⟨G, 4, none⟩ _ h.ne) ⟨G, 5, none⟩ _ h.ne) ⟨G, 6, none⟩ _ h.ne) ⟨G, 7, none⟩ _ h.ne, h.ge, h.ne⟩
theorem Bs.takeW {w : World} {a : Option Addr} {n c m : Nat} {xs : List Int} (h : Bs w a n c xs) (hm : m ≤ n) : Bs w a m c (xs.take m) := by
  obtain ⟨h0, h1, h2, h3, h4⟩ := h
  refine ⟨h0, by simp; omega, by omega, fun x hx => h3 x (List.mem_of_mem_take hx), ?_⟩
  rcases h4 with h4 | ⟨b, o, ha, hlt, hc⟩
  · exact .inl (by omega)
  · refine .inr ⟨b, o, ha, hlt, fun j hj => ?_⟩
    rw [hc j (by omega)]
    simp [List.getD, hj]
theorem Bs.dropW {w : World} {b o : Nat} {n c m : Nat} {xs : List Int} (h : Bs w (some ⟨b, o, none⟩) n c xs) (hm : m ≤ n) : Bs w (some ⟨b, o + m, none⟩) (n - m) (c - m) (xs.drop m) := by
  obtain ⟨h0, h1, h2, h3, h4⟩ := h
  refine ⟨(fun h => by cases h), by simp; omega, by omega, fun x hx => h3 x (List.mem_of_mem_drop hx), ?_⟩
  by_cases hz : n - m = 0
  · exact .inl hz
  rcases h4 with h4 | ⟨b', o', ha, hlt, hc⟩
  · exact .inl (by omega)
  · cases ha
    refine .inr ⟨b, o + m, rfl, hlt, fun j hj => ?_⟩
    have := hc (m + j) (by omega)
    rw [show o + m + j = o + (m + j) by omega, this]
    simp [List.getD, List.getElem?_drop]

set_option maxHeartbeats 4000000 in
theorem specL3sum (a : Option Addr) (n c : Nat) (xs : List Int) (w : World) (hB : Bs w a n c xs) (hn : n ≤ 20000) :
    Calls Tryd.prog 14 #[.slice a n c] w fun e w' => ∃ v, e = .returned v ∧ w'.ownsRow w.heap.size 5 1 v 64 (U8 (sumOfW xs)) ∧ Below w.heap.size w w' := by
  have hbl := hB.2.1
  have hbb := hB.2.2.2.1
  have HBB : Hid _ := hbb
  have hzl := zw_lt n
  have hzn := zw_is n
  have HZ : Hid _ := zw_no n
  obtain ⟨z, hz⟩ : ∃ z, z = zw n := ⟨_, rfl⟩
  rw [← hz] at hzl hzn HZ
  have HZN : Hid _ := hz
  clear hz hbb
  have hBm : Bs (w.alloc (.cells #[] 5)) a n c xs := hB.below ((Below.refl _ _).alloc (Nat.le_refl _) _)
  have hmm : Below w.heap.size w (w.alloc (.cells #[] 5)) := (Below.refl _ _).alloc (Nat.le_refl _) _
  have hmade := World.ownsRow_made (base := w.heap.size) (e := 5) (size := 1) w #[] 0 (Nat.le_refl _) (by unfold maxLen; omega) rfl
  go_enter Tryd.func14, Tryd.ntmps14
  go_wp2_with (at_builtin; refine wpl_append_bs rfl _ _ rfl w.heap.size _ 0 [] rfl a n c xs rfl hmade hBm ?_ ?_ ?_)
  · omega
  · simp
  intro v1 w1 o1 g1 _
  have b1 := below_app0 hmm (by simp) hmade g1
  have o1' : w1.ownsRow w.heap.size 5 1 v1 n (U8 xs) := by simpa using o1
  have s1 := b1.size
  clear o1 g1 hBm hmm hmade
  go_wp2_with (at_builtin; refine wpl_append_bs rfl _ _ rfl w.heap.size _ n xs rfl (some ⟨w1.heap.size, 0, none⟩) 1 1 [128] rfl (o1'.alloc _) (Bs.one _ _ (by omega) (by omega)) ?_ ?_ ?_)
  · omega
  · first | omega | (simp; omega)
  intro v2 w2 o2 g2 _
  have b2 := below_app b1 s1 o1' g2
  have o2' : w2.ownsRow w.heap.size 5 1 v2 (n + 1) (U8 (xs ++ 128 :: List.replicate 0 0)) := by simpa using o2
  clear o2 g2 o1' b1 s1
  have hby : ∀ k, ∀ x ∈ xs ++ 128 :: List.replicate k (0 : Int), 0 ≤ x ∧ x < 256 := by
    intro k x hx
    simp only [List.mem_append, List.mem_cons, List.mem_replicate] at hx
    rcases hx with h | rfl | ⟨_, rfl⟩
    · exact HBB.out x h
    · omega
    · omega
  have HBY : Hid _ := hby
  clear hby
  go_wp2
  go_loopw [3] (fun v wr => ∃ k m : Nat, m = n + 1 + k ∧ k ≤ z ∧ wr.ownsRow w.heap.size 5 1 v m (U8 (xs ++ 128 :: List.replicate k 0)) ∧ Below w.heap.size w wr) (fun v _ => match v with | .slice _ m _ => n + 1 + z - m | _ => 0)
  case atStart => exact ⟨0, n + 1, rfl, by omega, o2', b2⟩
  case round =>
    clear o2' b2
    obtain ⟨k, m, hm, hk, ho, hb⟩ := hrel
    obtain ⟨a3, c3, rfl, _, _⟩ := Bs.own ho (HBY.out k)
    have hsz := hb.size
    have HM : Hid _ := hm
    by_cases hkz : k < z
    · have hne := HZ.out k hkz
      have hr : ¬ ((m : Int) % 128 = 112) := by rw [hm]; omega
      clear hne
      have hm128 : m ≤ 20200 := by omega
      clear hm
      go_wp2_with (at_builtin; refine wpl_append_bs rfl _ _ rfl w.heap.size _ m (xs ++ 128 :: List.replicate k 0) rfl (some ⟨wr.heap.size, 0, none⟩) 1 1 [0] rfl (ho.alloc _) (Bs.one _ _ (by omega) (by omega)) ?_ ?_ ?_)
      · omega
      · first | omega | (simp; omega)
      intro v' w' h1 h2 _
      have hb2 := below_app hb (by omega) ho h2
      have HR : Hid (w'.ownsRow w.heap.size 5 1 v' (m + 1) (U8 (xs ++ 128 :: List.replicate (k + 1) 0))) := by
        unfold Hid
        rw [List.replicate_succ']; simpa using h1
      clear h1 h2 ho hb
      go_wp2
      go_roundw
      case rel => exact ⟨k + 1, m + 1, by have := HM.out; omega, by omega, HR.out, hb2⟩
      case measure =>
        obtain ⟨a4, c4, rfl, _, _⟩ := Bs.own HR.out (HBY.out (k + 1))
        have := HM.out
        simp
        omega
    · obtain rfl : k = z := by omega
      have hr : (m : Int) % 128 = 112 := by rw [hm]; omega
      have hm128 : m ≤ 20200 := by omega
      clear hm
      have hz8 := Bs.zero8 wr
      go_wp2_with (at_builtin; refine wpl_append_bs rfl _ _ rfl w.heap.size _ m (xs ++ 128 :: List.replicate k 0) rfl (some ⟨wr.heap.size, 0, none⟩) 8 8 (List.replicate 8 0) rfl (ho.alloc _) hz8 ?_ ?_ ?_)
      · omega
      · first | omega | (simp; omega)
      intro v3 w3 o3 g3 _
      have b3 := below_app hb hsz ho g3
      have o3' : w3.ownsRow w.heap.size 5 1 v3 (m + 8) (U8 (xs ++ 128 :: (List.replicate k 0 ++ (List.replicate 8 0 ++ lenB n 0)))) := by simpa [lenB] using o3
      clear hz8 o3 g3 ho hb hr hsz
      go_wp2
      have hn8 : IntKind.i64.wrap ((n : Int) * 8) = (n : Int) * 8 := by rw [IntKind.wrap_i64]; omega
      clear hn8
      go_loopw [3, 5] (fun v i wr => ∃ j q : Nat, q = m + 8 + j ∧ j ≤ 8 ∧ i = .int .i64 (7 - (j : Int)) ∧ wr.ownsRow w.heap.size 5 1 v q (U8 (xs ++ 128 :: (List.replicate k 0 ++ (List.replicate 8 0 ++ lenB n j)))) ∧ Below w.heap.size w wr) (fun _ i _ => (intOf i + 1).toNat)
      case atStart => exact ⟨0, m + 8, rfl, by omega, rfl, o3', b3⟩
      case round =>
        clear o3' b3
        obtain ⟨j, q, hq, hj, rfl, ho, hb⟩ := hrel
        by_cases hj8 : j < 8
        · have hj0 : (0 : Int) ≤ 7 - (j : Int) := by omega
          have hj1 : IntKind.i64.wrap (8 * (7 - (j : Int))) = 56 - 8 * (j : Int) := by rw [IntKind.wrap_i64]; omega
          have hq210 : q ≤ 20230 := by omega
          have HQ : Hid _ := hq
          have hsz' := hb.size
          have he : (n : Int) * 8 / 2 ^ (56 - 8 * j) % 256 = lenAt n j := by unfold lenAt; rw [Int.mul_comm]
          have HE : Hid _ := he
          clear hq he
          go_wp2_with (at_builtin; refine wpl_append_bs rfl _ _ rfl w.heap.size _ q (xs ++ 128 :: (List.replicate k 0 ++ (List.replicate 8 0 ++ lenB n j))) rfl (some ⟨wr.heap.size, 0, none⟩) 1 1 [lenAt n j] rfl (ho.alloc _) ?_ ?_ ?_ ?_)
          · have := Bs.one wr ((n : Int) * 8 / 2 ^ (56 - 8 * j) % 256) (by omega) (by omega)
            rw [← HE.out]
            exact this
          · omega
          · first | omega | (simp; omega)
          intro v' w' h1 h2 _
          have hb2 := below_app hb (by omega) ho h2
          have HR : Hid (w'.ownsRow w.heap.size 5 1 v' (q + 1) (U8 (xs ++ 128 :: (List.replicate k 0 ++ (List.replicate 8 0 ++ lenB n (j + 1)))))) := by
            unfold Hid
            rw [lenB_succ]; simpa using h1
          clear h1 h2 ho hb
          go_wp2
          go_roundw
          case rel => exact ⟨j + 1, q + 1, by have := HQ.out; omega, by omega, by go_num, HR.out, hb2⟩
          case measure => simp [intOf]; omega
        · obtain rfl : j = 8 := by omega
          have hj0 : ¬ ((0 : Int) ≤ 7 - ((8 : Nat) : Int)) := by omega
          have hpad : xs ++ 128 :: (List.replicate k 0 ++ (List.replicate 8 0 ++ lenB n 8)) = xs ++ padW xs.length := by unfold padW; rw [hbl, ← HZN.out]
          rw [hpad] at ho
          have hqm : q % 128 = 0 := by have := HM.out; omega
          have hq2 : q ≤ 20300 := by omega
          have hLb : ∀ x ∈ xs ++ padW xs.length, 0 ≤ x ∧ x < 256 := fun x hx => by
            rcases List.mem_append.1 hx with h | h
            · exact HBB.out x h
            · exact padW_byte _ x h
          have hLl : (xs ++ padW xs.length).length = q := by
            rw [List.length_append, padW_len, hbl, ← HZN.out]; have := HM.out; omega
          obtain ⟨L, hLe⟩ : ∃ L, L = xs ++ padW xs.length := ⟨_, rfl⟩
          rw [← hLe] at ho hLb hLl
          have HFIN : Hid (sumOfW xs = sumW (fldw H0W L (q / 128))) := by unfold Hid sumOfW; rw [← hLe, hLl]
          have HLB : Hid _ := hLb
          clear hpad hq hLb hLe
          obtain ⟨a4, c4, rfl, hc4, hx4⟩ := Bs.own ho HLB.out
          have hcq := hx4.2.2.1
          unfold maxLen at hc4
          clear hx4
          go_wp2_with fail
          refine (specFirstW _).mono ?_
          rintro e w5 ⟨rfl, b5⟩
          have h8 := H0W_len
          have HWD : Hid _ := H0W_word
          obtain ⟨H, hH⟩ : ∃ H, H = H0W := ⟨_, rfl⟩
          rw [← hH] at h8 HWD HFIN ⊢
          clear hH
          obtain ⟨l0, l1, l2, l3, l4, l5, l6, l7, hhs⟩ := list8 h8
          rw [show (Value.agg (U64 H).toArray) = Value.agg #[.int .u64 l0, .int .u64 l1, .int .u64 l2, .int .u64 l3, .int .u64 l4, .int .u64 l5, .int .u64 l6, .int .u64 l7] by rw [hhs]; rfl]
          have HHS : Hid _ := hhs
          clear hhs
          have B5 := hb.trans (b5.mono hb.size)
          have o5 := own_below ho b5
          have LW0 : Lw w (w5.alloc (.cells #[.int .u64 l0, .int .u64 l1, .int .u64 l2, .int .u64 l3, .int .u64 l4, .int .u64 l5, .int .u64 l6, .int .u64 l7] 52)) w5.heap.size (fldw H L 0) (.slice a4 q c4) q L := by
            refine ⟨B5.alloc B5.size _, ?_, o5.alloc _, B5.size, fun he => by have := (o5.lt _ he).2; omega⟩
            rw [show fldw H L 0 = [l0, l1, l2, l3, l4, l5, l6, l7] from HHS.out]
            exact Arr.new _ _ _
          clear ho hb b5 B5 o5
          go_wp2
          obtain ⟨G, hG⟩ : ∃ G, G = w5.heap.size := ⟨_, rfl⟩
          rw [← hG] at LW0 ⊢
          clear hG
          go_loopw [7] (fun i wr => ∃ k p : Nat, p = 128 * k ∧ p ≤ q ∧ i = .int .i64 p ∧ Lw w wr G (fldw H L k) (.slice a4 q c4) q L) (fun i _ => q - (intOf i).toNat)
          case atStart => exact ⟨0, 0, rfl, by omega, rfl, LW0⟩
          case round =>
            clear LW0
            obtain ⟨k, p, hp, hpn, rfl, LA⟩ := hrel
            by_cases hlt : p < q
            · have hpq : p + 128 ≤ q := by omega
              have hlt' : (p : Int) < (q : Int) := by omega
              have r128 : IntKind.i64.wrap ((p : Int) + 128) = (p : Int) + 128 := by rw [IntKind.wrap_i64]; omega
              have HP : Hid _ := hp
              have h8k := fldw_len h8 L k
              obtain ⟨a0, a1, a2, a3', a4', a5, a6, a7, hst⟩ := list8 h8k
              rw [hst] at LA
              have HST : Hid _ := hst
              clear hst h8k hp
              have d0 := LA.g5.u64 0 (by simp)
              have d1 := LA.g5.u64 1 (by simp)
              have d2 := LA.g5.u64 2 (by simp)
              have d3 := LA.g5.u64 3 (by simp)
              have d4 := LA.g5.u64 4 (by simp)
              have d5 := LA.g5.u64 5 (by simp)
              have d6 := LA.g5.u64 6 (by simp)
              have d7 := LA.g5.u64 7 (by simp)
              simp at d0 d1 d2 d3 d4 d5 d6 d7
              obtain ⟨a4q, c4q, hbe, _, hbx⟩ := Bs.own LA.ow HLB.out
              simp only [Value.slice.injEq, true_and] at hbe
              obtain ⟨rfl, rfl⟩ := hbe
              obtain ⟨b, o, rfl⟩ : ∃ b o, a4 = some ⟨b, o, none⟩ := by
                rcases hbx.2.2.2.2 with h | ⟨b, o, h, _⟩
                · omega
                · exact ⟨b, o, h⟩
              have hcp : ¬ c4 = p := by omega
              have hpc : (p : Int) + 128 ≤ (c4 : Int) := by omega
              have hp0 : (0 : Int) ≤ (p : Int) := by omega
              have t1 : ((p : Int) + 128 - (p : Int)).toNat = 128 := by omega
              have t2 : ((c4 : Int) - (p : Int)).toNat = c4 - p := by omega
              go_wp2
              have hbp : Bs wr.drew (some ⟨b, o + p, none⟩) 128 (c4 - p) ((L.drop p).take 128) := (hbx.dropW (m := p) (by omega)).takeW (by omega)
              have LAd := LA.go (Below.refl _ _).drew
              clear hbx LA
              go_region_with (go_at_call 24; refine (specBlockW [a0, a1, a2, a3', a4', a5, a6, a7] (some ⟨b, o + p, none⟩) (c4 - p) ((L.drop p).take 128) _ rfl hbp).mono ?_; rintro e w6 ⟨rfl, hb6⟩; obtain ⟨z0, z1, z2, z3, z4, z5, z6, z7, hz⟩ := list8 (blkw_len (h := [a0, a1, a2, a3', a4', a5, a6, a7]) rfl ((L.drop p).take 128)); rw [hz]; have HZZ : Hid _ := hz; clear hz; have LA5 := LAd.go hb6; replace d0 := LA5.g5.u64 0 (by simp); replace d1 := LA5.g5.u64 1 (by simp); replace d2 := LA5.g5.u64 2 (by simp); replace d3 := LA5.g5.u64 3 (by simp); replace d4 := LA5.g5.u64 4 (by simp); replace d5 := LA5.g5.u64 5 (by simp); replace d6 := LA5.g5.u64 6 (by simp); replace d7 := LA5.g5.u64 7 (by simp); have ff := LA5.g5.frozen; simp at d0 d1 d2 d3 d4 d5 d6 d7)
              all_goals
                have LA6 := LA5.set8 z0 z1 z2 z3 z4 z5 z6 z7
                have hf : fldw H L (k + 1) = [z0, z1, z2, z3, z4, z5, z6, z7] := by
                  show blkw (fldw H L k) ((L.drop (128 * k)).take 128) = _
                  rw [HST.out, ← HP.out]; exact HZZ.out
                rw [← hf] at LA6
                clear hf HZZ LA5 LAd d0 d1 d2 d3 d4 d5 d6 d7 ff hbp
                go_wp2
                go_roundw
                case rel => exact ⟨k + 1, p + 128, by have := HP.out; omega, by omega, by go_num, LA6⟩
                case measure => simp [intOf]; omega
            · obtain rfl : p = q := by omega
              have hkq : p / 128 = k := by omega
              have hfl := fldw_len h8 L k
              have HSW : Hid (∀ x ∈ fldw H L k, 0 ≤ x ∧ x < 18446744073709551616) := fldw_word HWD.out L k
              obtain ⟨st, hst⟩ : ∃ st, st = fldw H L k := ⟨_, rfl⟩
              have HFIN2 : Hid (sumOfW xs = sumW st) := by unfold Hid; rw [HFIN.out, hkq, hst]
              rw [← hst] at LA hfl HSW
              clear hp hkq hst HFIN
              have hlt' : ¬ ((p : Int) < (p : Int)) := by omega
              go_wp2
              obtain ⟨X, hX⟩ : ∃ X, X = wr := ⟨_, rfl⟩
              rw [← hX] at LA ⊢
              clear hX
              have hXs := LA.fr.size
              go_loopw [8, 9] (fun v i wr => ∃ k m : Nat, m = 8 * k ∧ k ≤ 8 ∧ i = .int .i64 k ∧ wr.ownsRow X.heap.size 5 1 v m (U8 (sumW (st.take k))) ∧ Below X.heap.size X wr) (fun _ i _ => 8 - (intOf i).toNat)
              case atStart => exact ⟨0, 0, rfl, by omega, rfl, by simpa [sumW] using World.ownsRow_nil _ _ _ _, Below.refl _ _⟩
              case round =>
                obtain ⟨k, m, hm, hk, rfl, hown, hb⟩ := hrel
                by_cases hlt : k < 8
                · obtain ⟨x, hx⟩ : ∃ x, x = st.getD k 0 := ⟨_, rfl⟩
                  have ckX := LA.g5.u64 k (by omega)
                  rw [← hx] at ckX
                  have hGX := LA.g5.lt
                  obtain ⟨hx0, hx1⟩ : 0 ≤ x ∧ x < 18446744073709551616 := by rw [hx]; exact HSW.out _ (getD_memW (by omega))
                  have hsn := take_snoc st k (by omega)
                  rw [← hx] at hsn
                  have HN : Hid _ := sumW_snoc hsn
                  have HM8 : Hid _ := hm
                  have hk8 : (k : Int) < 8 := by omega
                  have hm56 : m ≤ 56 := by omega
                  clear hx hsn hm
                  go_wp2
                  go_loopw [8, 10] (fun v i wr => ∃ j q : Nat, q = m + j ∧ j ≤ 8 ∧ i = .int .i64 (7 - (j : Int)) ∧ wr.ownsRow X.heap.size 5 1 v q (U8 (sumW (st.take k) ++ b8 x j)) ∧ Below X.heap.size X wr) (fun _ i _ => (intOf i + 1).toNat)
                  case atStart => exact ⟨0, m, rfl, by omega, rfl, by simpa [b8] using hown, hb⟩
                  case round =>
                    clear hown hb
                    obtain ⟨j, q, hq, hj, rfl, ho, hb⟩ := hrel
                    by_cases hj8 : j < 8
                    · have hj0 : (0 : Int) ≤ 7 - (j : Int) := by omega
                      have hj1 : IntKind.i64.wrap (8 * (7 - (j : Int))) = 56 - 8 * (j : Int) := by rw [IntKind.wrap_i64]; omega
                      have hj2 : (0 : Int) ≤ 56 - 8 * (j : Int) := by omega
                      have hj3 : (56 - 8 * (j : Int)).toNat = 56 - 8 * j := by omega
                      have hj4 : 56 - 8 * (j : Int) < 64 := by omega
                      have hj5 : 56 - 8 * j < 64 := by omega
                      have hk0 : (0 : Int) ≤ (k : Int) := by omega
                      have hq64 : q ≤ 64 := by omega
                      have ck : wr.cell? ⟨G, k, none⟩ = some (.int .u64 x) := (hb.cell (p := ⟨G, k, none⟩) hGX).trans ckX
                      have HQ : Hid _ := hq
                      have hsz' := hb.size
                      have hcv : IntKind.u8.wrap (x / 2 ^ (56 - 8 * j)) = x / 2 ^ (56 - 8 * j) % 256 := IntKind.wrap_u8 _
                      clear hq
                      go_wp2_with (at_builtin; refine wpl_append_bs rfl _ _ rfl X.heap.size _ q (sumW (st.take k) ++ b8 x j) rfl (some ⟨wr.heap.size, 0, none⟩) 1 1 [x / 2 ^ (56 - 8 * j) % 256] rfl (ho.alloc _) (Bs.one _ _ (by omega) (by omega)) ?_ ?_ ?_)
                      · omega
                      · first | omega | (simp; omega)
                      intro v' w' h1 h2 _
                      have hb2 := below_app hb (by omega) ho h2
                      have HR : Hid (w'.ownsRow X.heap.size 5 1 v' (q + 1) (U8 (sumW (st.take k) ++ b8 x (j + 1)))) := by
                        unfold Hid
                        rw [b8_succ]; simpa using h1
                      clear h1 h2 ho hb ck
                      go_wp2
                      go_roundw
                      case rel => exact ⟨j + 1, q + 1, by have := HQ.out; omega, by omega, by go_num, HR.out, hb2⟩
                      case measure => simp [intOf]; omega
                    · obtain rfl : j = 8 := by omega
                      have hj0 : ¬ ((0 : Int) ≤ 7 - ((8 : Nat) : Int)) := by omega
                      rw [← HN.out] at ho
                      have HO : Hid _ := ho
                      have HQ : Hid _ := hq
                      clear ho hq
                      go_wp2
                      go_roundw
                      case rel => exact ⟨k + 1, q, by have := HQ.out; have := HM8.out; omega, by omega, by go_num, HO.out, hb⟩
                      case measure => simp [intOf]; omega
                · obtain rfl : k = 8 := by omega
                  obtain rfl : m = 64 := hm
                  rw [List.take_of_length_le (show st.length ≤ 8 by omega), ← HFIN2.out] at hown
                  have fr := LA.fr.trans (hb.mono LA.fr.size)
                  have ho' := own_base hown hXs
                  go_wp2
                  go_ret
                  exact ⟨_, rfl, ho', fr⟩

end Go.Proofs.YtihoaakbkffejaaDoor

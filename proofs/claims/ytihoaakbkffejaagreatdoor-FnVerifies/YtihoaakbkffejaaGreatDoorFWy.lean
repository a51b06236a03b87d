/-
  What is proved here: contracts of the specification's l3sum and Sha512, for every slice of bytes; the contract of the program's method joined on points in the long form.
-/
import Derived.Test.YtihoaakbkffejaaGreatDoorFWw
import Derived.Test.YtihoaakbkffejaaGreatDoorFFm
import Derived.Deep.AppendLies
import Derived.Test.YtihoaakbkffejaaGreatDoorFOa
import Derived.Test.YtihoaakbkffejaaGreatDoorFTm
namespace Go.Proofs.YtihoaakbkffejaaGreatDoor
open Go.RowKit

def zw (n : Nat) : Nat := (239 - n % 128) % 128
theorem zw_lt (n : Nat) : zw n < 128 := Nat.mod_lt _ (by omega)
theorem zw_is (n : Nat) : (n + 1 + zw n) % 128 = 112 := by unfold zw; omega
theorem zw_no (n k : Nat) (h : k < zw n) : (n + 1 + k) % 128 ≠ 112 := by unfold zw at h; omega
def padW (n : Nat) : List Int := 128 :: (List.replicate (zw n) 0 ++ (List.replicate 8 0 ++ lenB n 8))
theorem padW_len (n : Nat) : (padW n).length = zw n + 17 := by simp [padW, lenB]
def fldw (hs l : List Int) : Nat → List Int
 | 0 => hs
 | k + 1 => blkw (fldw hs l k) ((l.drop (128 * k)).take 128)
theorem fldw_len {hs : List Int} (h : hs.length = 8) (l : List Int) (k : Nat) : (fldw hs l k).length = 8 := by
 induction k with
 | zero => exact h
 | succ k ih => exact blkw_len ih _
theorem fldw_word {hs : List Int} (h : ∀ x ∈ hs, 0 ≤ x ∧ x < 18446744073709551616) (l : List Int) (k : Nat) : ∀ x ∈ fldw hs l k, 0 ≤ x ∧ x < 18446744073709551616 := by
 cases k with
 | zero => exact h
 | succ k => exact blkw_word _ _
def b8 (x : Int) (j : Nat) : List Int := (List.range j).map (fun i => x / 2 ^ (56 - 8 * i) % 256)
theorem b8_succ (x : Int) (j : Nat) : b8 x (j + 1) = b8 x j ++ [x / 2 ^ (56 - 8 * j) % 256] := by simp [b8, List.range_succ]
def sumW (l : List Int) : List Int := l.flatMap (fun x => b8 x 8)
theorem sumW_len (l : List Int) : (sumW l).length = 8 * l.length := by
 induction l with
 | nil => rfl
 | cons x l ih => simp only [sumW, List.flatMap_cons, List.length_append, List.length_cons] at ih ⊢; rw [ih]; simp [b8]; omega
theorem sumW_byte (l : List Int) : ∀ y ∈ sumW l, 0 ≤ y ∧ y < 256 := by
 intro y hy
 obtain ⟨x, _, h⟩ := List.mem_flatMap.1 hy
 simp only [b8, List.mem_map] at h
 obtain ⟨i, _, rfl⟩ := h
 omega
theorem sumW_snoc {l : List Int} {k : Nat} {x : Int} (h : l.take (k + 1) = l.take k ++ [x]) : sumW (l.take (k + 1)) = sumW (l.take k) ++ b8 x 8 := by
 rw [h]; simp [sumW]
def sumOfW (xs : List Int) : List Int := sumW (fldw H0W (xs ++ padW xs.length) ((xs ++ padW xs.length).length / 128))
def s512 (xs : List Int) : List Int := if xs.length ≤ 20000 then sumOfW xs else []
theorem sumOfW_len (xs : List Int) : (sumOfW xs).length = 64 := by
 unfold sumOfW
 rw [sumW_len, fldw_len H0W_len]
theorem padW_byte (n : Nat) : ∀ x ∈ padW n, 0 ≤ x ∧ x < 256 := by
 intro x hx
 simp only [padW, lenB, List.mem_cons, List.mem_append, List.mem_replicate, List.mem_map] at hx
 rcases hx with rfl | ⟨_, rfl⟩ | ⟨_, rfl⟩ | ⟨k, _, rfl⟩
 ·omega
 ·omega
 ·omega
 ·exact lenAt_byte _ k

theorem Bs.zero8 (w : World) : Bs (w.alloc (.cells #[.int .u8 0, .int .u8 0, .int .u8 0, .int .u8 0, .int .u8 0, .int .u8 0, .int .u8 0, .int .u8 0] 5)) (some ⟨w.heap.size, 0, none⟩) 8 8 (List.replicate 8 0) := by
 refine ⟨(fun h => by cases h), rfl, Nat.le_refl _, by decide, .inr ⟨w.heap.size, 0, rfl, by simp, ?_⟩⟩
 intro j hj
 rw [World.cell?_alloc_at _ _ _ _ rfl]
 match j, hj with
 | 0, _ => rfl
 | 1, _ => rfl
 | 2, _ => rfl
 | 3, _ => rfl
 | 4, _ => rfl
 | 5, _ => rfl
 | 6, _ => rfl
 | 7, _ => rfl

theorem own_ne {w : World} {b e s n : Nat} {v : Value} {xs : List Value} (h : w.ownsRow b e s v n xs) (p : Addr) (u : Value) (hp : v.ownBlock ≠ some p.block) : (w.setCell p u).ownsRow b e s v n xs := by
 refine ⟨h.1, ?_⟩
 rcases h.2 with hn | ⟨g, cap, cur, rfl, hg, hgg, rest⟩
 ·exact .inl hn
 ·refine .inr ⟨g, cap, cur, rfl, hg, ?_, rest⟩
  rw [heap_setCell_other w p g u (fun e => hp (by rw [← e]; rfl))]
  exact hgg

structure Lw (w W : World) (G : Nat) (st : List Int) (v : Value) (q : Nat) (l : List Int) : Prop where
 fr : Below w.heap.size w W
 g5 : Arr W G 100 (U64 st)
 ow : W.ownsRow w.heap.size 5 1 v q (U8 l)
 ge : w.heap.size ≤ G
 ne : v.ownBlock ≠ some G
theorem Lw.go {w W W' : World} {G : Nat} {st : List Int} {v : Value} {q : Nat} {l : List Int} (h : Lw w W G st v q l) (hb : Below W.heap.size W W') : Lw w W' G st v q l :=
 ⟨h.fr.trans (hb.mono h.fr.size), h.g5.kept hb, own_below h.ow hb, h.ge, h.ne⟩
theorem Lw.set8 {w W : World} {G : Nat} {a0 a1 a2 a3 a4 a5 a6 a7 : Int} {v : Value} {q : Nat} {l : List Int} (h : Lw w W G [a0, a1, a2, a3, a4, a5, a6, a7] v q l) (l0 l1 l2 l3 l4 l5 l6 l7 : Int) :
  Lw w ((((((((W.setCell ⟨G, 0, none⟩ (.int .u64 l0)).setCell ⟨G, 1, none⟩ (.int .u64 l1)).setCell ⟨G, 2, none⟩ (.int .u64 l2)).setCell ⟨G, 3, none⟩ (.int .u64 l3)).setCell ⟨G, 4, none⟩ (.int .u64 l4)).setCell ⟨G, 5, none⟩ (.int .u64 l5)).setCell ⟨G, 6, none⟩ (.int .u64 l6)).setCell ⟨G, 7, none⟩ (.int .u64 l7)) G [l0, l1, l2, l3, l4, l5, l6, l7] v q l :=
 ⟨set8_below h.fr h.ge _ _ _ _ _ _ _ _, h.g5.setW l0 l1 l2 l3 l4 l5 l6 l7,
  own_ne (own_ne (own_ne (own_ne (own_ne (own_ne (own_ne (own_ne h.ow ⟨G, 0, none⟩ _ h.ne) ⟨G, 1, none⟩ _ h.ne) ⟨G, 2, none⟩ _ h.ne) ⟨G, 3, none⟩ _ h.ne) ⟨G, 4, none⟩ _ h.ne) ⟨G, 5, none⟩ _ h.ne) ⟨G, 6, none⟩ _ h.ne) ⟨G, 7, none⟩ _ h.ne, h.ge, h.ne⟩
theorem Bs.takeW {w : World} {a : Option Addr} {n c m : Nat} {xs : List Int} (h : Bs w a n c xs) (hm : m ≤ n) : Bs w a m c (xs.take m) := by
 obtain ⟨h0, h1, h2, h3, h4⟩ := h
 refine ⟨h0, by simp; omega, by omega, fun x hx => h3 x (List.mem_of_mem_take hx), ?_⟩
 rcases h4 with h4 | ⟨b, o, ha, hlt, hc⟩
 ·exact .inl (by omega)
 ·refine .inr ⟨b, o, ha, hlt, fun j hj => ?_⟩
  rw [hc j (by omega)]
  simp [List.getD, hj]
theorem Bs.dropW {w : World} {b o : Nat} {n c m : Nat} {xs : List Int} (h : Bs w (some ⟨b, o, none⟩) n c xs) (hm : m ≤ n) : Bs w (some ⟨b, o + m, none⟩) (n - m) (c - m) (xs.drop m) := by
 obtain ⟨h0, h1, h2, h3, h4⟩ := h
 refine ⟨(fun h => by cases h), by simp; omega, by omega, fun x hx => h3 x (List.mem_of_mem_drop hx), ?_⟩
 by_cases hz : n - m = 0
 ·exact .inl hz
 rcases h4 with h4 | ⟨b', o', ha, hlt, hc⟩
 ·exact .inl (by omega)
 ·cases ha
  refine .inr ⟨b, o + m, rfl, hlt, fun j hj => ?_⟩
  have := hc (m + j) (by omega)
  rw [show o + m + j = o + (m + j) by omega, this]
  simp [List.getD, List.getElem?_drop]

set_option maxHeartbeats 4000000 in
theorem specL3sum (a : Option Addr) (n c : Nat) (xs : List Int) (w : World) (hB : Bs w a n c xs) (hn : n ≤ 20000) :
  Calls Tryz.prog 73 #[.slice a n c] w fun e w' => ∃ v, e = .returned v ∧ w'.ownsRow w.heap.size 5 1 v 64 (U8 (sumOfW xs)) ∧ Below w.heap.size w w' := by
 have hbl := hB.2.1
 have hbb := hB.2.2.2.1
 have HBB : Hid _ := hbb
 have hzl := zw_lt n
 have hzn := zw_is n
 have HZ : Hid _ := zw_no n
 obtain ⟨z, hz⟩ : ∃ z, z = zw n := ⟨_, rfl⟩
 rw [← hz] at hzl hzn HZ
 have HZN : Hid _ := hz
 clear hz hbb
 have hBm : Bs (w.alloc (.cells #[] 5)) a n c xs := hB.below ((Below.refl _ _).alloc (Nat.le_refl _) _)
 have hmm : Below w.heap.size w (w.alloc (.cells #[] 5)) := (Below.refl _ _).alloc (Nat.le_refl _) _
 have hmade := World.ownsRow_made (base := w.heap.size) (e := 5) (size := 1) w #[] 0 (Nat.le_refl _) (by unfold maxLen; omega) rfl
 go_enter Tryz.func73, Tryz.ntmps73
 go_wp2_with (at_builtin; refine wpl_append_bs rfl _ _ rfl w.heap.size _ 0 [] rfl a n c xs rfl hmade hBm ?_ ?_ ?_)
 ·omega
 ·simp
 intro v1 w1 o1 g1 _
 have b1 := below_app0 hmm (by simp) hmade g1
 have o1' : w1.ownsRow w.heap.size 5 1 v1 n (U8 xs) := by simpa using o1
 have s1 := b1.size
 clear o1 g1 hBm hmm hmade
 go_wp2_with (at_builtin; refine wpl_append_bs rfl _ _ rfl w.heap.size _ n xs rfl (some ⟨w1.heap.size, 0, none⟩) 1 1 [128] rfl (o1'.alloc _) (Bs.one _ _ (by omega) (by omega)) ?_ ?_ ?_)
 ·omega
 ·first | omega | (simp; omega)
 intro v2 w2 o2 g2 _
 have b2 := below_app b1 s1 o1' g2
 have o2' : w2.ownsRow w.heap.size 5 1 v2 (n + 1) (U8 (xs ++ 128 :: List.replicate 0 0)) := by simpa using o2
 clear o2 g2 o1' b1 s1
 have hby : ∀ k, ∀ x ∈ xs ++ 128 :: List.replicate k (0 : Int), 0 ≤ x ∧ x < 256 := by
  intro k x hx
  simp only [List.mem_append, List.mem_cons, List.mem_replicate] at hx
  rcases hx with h | rfl | ⟨_, rfl⟩
  ·exact HBB.out x h
  ·omega
  ·omega
 have HBY : Hid _ := hby
 clear hby
 go_wp2
 go_loopw [3] (fun v wr => ∃ k m : Nat, m = n + 1 + k ∧ k ≤ z ∧ wr.ownsRow w.heap.size 5 1 v m (U8 (xs ++ 128 :: List.replicate k 0)) ∧ Below w.heap.size w wr) (fun v _ => match v with | .slice _ m _ => n + 1 + z - m | _ => 0)
 case atStart => exact ⟨0, n + 1, rfl, by omega, o2', b2⟩
 case round =>
  clear o2' b2
  obtain ⟨k, m, hm, hk, ho, hb⟩ := hrel
  obtain ⟨a3, c3, rfl, _, _⟩ := Bs.own ho (HBY.out k)
  have hsz := hb.size
  have HM : Hid _ := hm
  by_cases hkz : k < z
  ·have hne := HZ.out k hkz
   have hr : ¬ ((m : Int) % 128 = 112) := by rw [hm]; omega
   clear hne
   have hm128 : m ≤ 20200 := by omega
   clear hm
   go_wp2_with (at_builtin; refine wpl_append_bs rfl _ _ rfl w.heap.size _ m (xs ++ 128 :: List.replicate k 0) rfl (some ⟨wr.heap.size, 0, none⟩) 1 1 [0] rfl (ho.alloc _) (Bs.one _ _ (by omega) (by omega)) ?_ ?_ ?_)
   ·omega
   ·first | omega | (simp; omega)
   intro v' w' h1 h2 _
   have hb2 := below_app hb (by omega) ho h2
   have HR : Hid (w'.ownsRow w.heap.size 5 1 v' (m + 1) (U8 (xs ++ 128 :: List.replicate (k + 1) 0))) := by
    unfold Hid
    rw [List.replicate_succ']; simpa using h1
   clear h1 h2 ho hb
   go_wp2
   go_roundw
   case rel => exact ⟨k + 1, m + 1, by have := HM.out; omega, by omega, HR.out, hb2⟩
   case measure =>
    obtain ⟨a4, c4, rfl, _, _⟩ := Bs.own HR.out (HBY.out (k + 1))
    have := HM.out
    simp
    omega
  ·obtain rfl : k = z := by omega
   have hr : (m : Int) % 128 = 112 := by rw [hm]; omega
   have hm128 : m ≤ 20200 := by omega
   clear hm
   have hz8 := Bs.zero8 wr
   go_wp2_with (at_builtin; refine wpl_append_bs rfl _ _ rfl w.heap.size _ m (xs ++ 128 :: List.replicate k 0) rfl (some ⟨wr.heap.size, 0, none⟩) 8 8 (List.replicate 8 0) rfl (ho.alloc _) hz8 ?_ ?_ ?_)
   ·omega
   ·first | omega | (simp; omega)
   intro v3 w3 o3 g3 _
   have b3 := below_app hb hsz ho g3
   have o3' : w3.ownsRow w.heap.size 5 1 v3 (m + 8) (U8 (xs ++ 128 :: (List.replicate k 0 ++ (List.replicate 8 0 ++ lenB n 0)))) := by simpa [lenB] using o3
   clear hz8 o3 g3 ho hb hr hsz
   go_wp2
   have hn8 : IntKind.i64.wrap ((n : Int) * 8) = (n : Int) * 8 := by rw [IntKind.wrap_i64]; omega
   clear hn8
   go_loopw [3, 5] (fun v i wr => ∃ j q : Nat, q = m + 8 + j ∧ j ≤ 8 ∧ i = .int .i64 (7 - (j : Int)) ∧ wr.ownsRow w.heap.size 5 1 v q (U8 (xs ++ 128 :: (List.replicate k 0 ++ (List.replicate 8 0 ++ lenB n j)))) ∧ Below w.heap.size w wr) (fun _ i _ => (intOf i + 1).toNat)
   case atStart => exact ⟨0, m + 8, rfl, by omega, rfl, o3', b3⟩
   case round =>
    clear o3' b3
    obtain ⟨j, q, hq, hj, rfl, ho, hb⟩ := hrel
    by_cases hj8 : j < 8
    ·have hj0 : (0 : Int) ≤ 7 - (j : Int) := by omega
     have hj1 : IntKind.i64.wrap (8 * (7 - (j : Int))) = 56 - 8 * (j : Int) := by rw [IntKind.wrap_i64]; omega
     have hq210 : q ≤ 20230 := by omega
     have HQ : Hid _ := hq
     have hsz' := hb.size
     have he : (n : Int) * 8 / 2 ^ (56 - 8 * j) % 256 = lenAt n j := by unfold lenAt; rw [Int.mul_comm]
     have HE : Hid _ := he
     clear hq he
     go_wp2_with (at_builtin; refine wpl_append_bs rfl _ _ rfl w.heap.size _ q (xs ++ 128 :: (List.replicate k 0 ++ (List.replicate 8 0 ++ lenB n j))) rfl (some ⟨wr.heap.size, 0, none⟩) 1 1 [lenAt n j] rfl (ho.alloc _) ?_ ?_ ?_ ?_)
     ·have := Bs.one wr ((n : Int) * 8 / 2 ^ (56 - 8 * j) % 256) (by omega) (by omega)
      rw [← HE.out]
      exact this
     ·omega
     ·first | omega | (simp; omega)
     intro v' w' h1 h2 _
     have hb2 := below_app hb (by omega) ho h2
     have HR : Hid (w'.ownsRow w.heap.size 5 1 v' (q + 1) (U8 (xs ++ 128 :: (List.replicate k 0 ++ (List.replicate 8 0 ++ lenB n (j + 1)))))) := by
      unfold Hid
      rw [lenB_succ]; simpa using h1
     clear h1 h2 ho hb
     go_wp2
     go_roundw
     case rel => exact ⟨j + 1, q + 1, by have := HQ.out; omega, by omega, by go_num, HR.out, hb2⟩
     case measure => simp [intOf]; omega
    ·obtain rfl : j = 8 := by omega
     have hj0 : ¬ ((0 : Int) ≤ 7 - ((8 : Nat) : Int)) := by omega
     have hpad : xs ++ 128 :: (List.replicate k 0 ++ (List.replicate 8 0 ++ lenB n 8)) = xs ++ padW xs.length := by unfold padW; rw [hbl, ← HZN.out]
     rw [hpad] at ho
     have hqm : q % 128 = 0 := by have := HM.out; omega
     have hq2 : q ≤ 20300 := by omega
     have hLb : ∀ x ∈ xs ++ padW xs.length, 0 ≤ x ∧ x < 256 := fun x hx => by
      rcases List.mem_append.1 hx with h | h
      ·exact HBB.out x h
      ·exact padW_byte _ x h
     have hLl : (xs ++ padW xs.length).length = q := by
      rw [List.length_append, padW_len, hbl, ← HZN.out]; have := HM.out; omega
     obtain ⟨L, hLe⟩ : ∃ L, L = xs ++ padW xs.length := ⟨_, rfl⟩
     rw [← hLe] at ho hLb hLl
     have HFIN : Hid (sumOfW xs = sumW (fldw H0W L (q / 128))) := by unfold Hid sumOfW; rw [← hLe, hLl]
     have HLB : Hid _ := hLb
     clear hpad hq hLb hLe
     obtain ⟨a4, c4, rfl, hc4, hx4⟩ := Bs.own ho HLB.out
     have hcq := hx4.2.2.1
     unfold maxLen at hc4
     clear hx4
     go_wp2_with fail
     refine (specFirstW _).mono ?_
     rintro e w5 ⟨rfl, b5⟩
     have h8 := H0W_len
     have HWD : Hid _ := H0W_word
     obtain ⟨H, hH⟩ : ∃ H, H = H0W := ⟨_, rfl⟩
     rw [← hH] at h8 HWD HFIN ⊢
     clear hH
     obtain ⟨l0, l1, l2, l3, l4, l5, l6, l7, hhs⟩ := list8 h8
     rw [show (Value.agg (U64 H).toArray) = Value.agg #[.int .u64 l0, .int .u64 l1, .int .u64 l2, .int .u64 l3, .int .u64 l4, .int .u64 l5, .int .u64 l6, .int .u64 l7] by rw [hhs]; rfl]
     have HHS : Hid _ := hhs
     clear hhs
     have B5 := hb.trans (b5.mono hb.size)
     have o5 := own_below ho b5
     have LW0 : Lw w (w5.alloc (.cells #[.int .u64 l0, .int .u64 l1, .int .u64 l2, .int .u64 l3, .int .u64 l4, .int .u64 l5, .int .u64 l6, .int .u64 l7] 100)) w5.heap.size (fldw H L 0) (.slice a4 q c4) q L := by
      refine ⟨B5.alloc B5.size _, ?_, o5.alloc _, B5.size, fun he => by have := (o5.lt _ he).2; omega⟩
      rw [show fldw H L 0 = [l0, l1, l2, l3, l4, l5, l6, l7] from HHS.out]
      exact Arr.new _ _ _
     clear ho hb b5 B5 o5
     go_wp2
     obtain ⟨G, hG⟩ : ∃ G, G = w5.heap.size := ⟨_, rfl⟩
     rw [← hG] at LW0 ⊢
     clear hG
     go_loopw [7] (fun i wr => ∃ k p : Nat, p = 128 * k ∧ p ≤ q ∧ i = .int .i64 p ∧ Lw w wr G (fldw H L k) (.slice a4 q c4) q L) (fun i _ => q - (intOf i).toNat)
     case atStart => exact ⟨0, 0, rfl, by omega, rfl, LW0⟩
     case round =>
      clear LW0
      obtain ⟨k, p, hp, hpn, rfl, LA⟩ := hrel
      by_cases hlt : p < q
      ·have hpq : p + 128 ≤ q := by omega
       have hlt' : (p : Int) < (q : Int) := by omega
       have r128 : IntKind.i64.wrap ((p : Int) + 128) = (p : Int) + 128 := by rw [IntKind.wrap_i64]; omega
       have HP : Hid _ := hp
       have h8k := fldw_len h8 L k
       obtain ⟨a0, a1, a2, a3', a4', a5, a6, a7, hst⟩ := list8 h8k
       rw [hst] at LA
       have HST : Hid _ := hst
       clear hst h8k hp
       have d0 := LA.g5.u64 0 (by simp)
       have d1 := LA.g5.u64 1 (by simp)
       have d2 := LA.g5.u64 2 (by simp)
       have d3 := LA.g5.u64 3 (by simp)
       have d4 := LA.g5.u64 4 (by simp)
       have d5 := LA.g5.u64 5 (by simp)
       have d6 := LA.g5.u64 6 (by simp)
       have d7 := LA.g5.u64 7 (by simp)
       simp at d0 d1 d2 d3 d4 d5 d6 d7
       obtain ⟨a4q, c4q, hbe, _, hbx⟩ := Bs.own LA.ow HLB.out
       simp only [Value.slice.injEq, true_and] at hbe
       obtain ⟨rfl, rfl⟩ := hbe
       obtain ⟨b, o, rfl⟩ : ∃ b o, a4 = some ⟨b, o, none⟩ := by
        rcases hbx.2.2.2.2 with h | ⟨b, o, h, _⟩
        ·omega
        ·exact ⟨b, o, h⟩
       have hcp : ¬ c4 = p := by omega
       have hpc : (p : Int) + 128 ≤ (c4 : Int) := by omega
       have hp0 : (0 : Int) ≤ (p : Int) := by omega
       have t1 : ((p : Int) + 128 - (p : Int)).toNat = 128 := by omega
       have t2 : ((c4 : Int) - (p : Int)).toNat = c4 - p := by omega
       go_wp2
       have hbp : Bs wr.drew (some ⟨b, o + p, none⟩) 128 (c4 - p) ((L.drop p).take 128) := (hbx.dropW (m := p) (by omega)).takeW (by omega)
       have LAd := LA.go (Below.refl _ _).drew
       clear hbx LA
       go_region_with (go_at_call 123; refine (specBlockW [a0, a1, a2, a3', a4', a5, a6, a7] (some ⟨b, o + p, none⟩) (c4 - p) ((L.drop p).take 128) _ rfl hbp).mono ?_; rintro e w6 ⟨rfl, hb6⟩; obtain ⟨z0, z1, z2, z3, z4, z5, z6, z7, hz⟩ := list8 (blkw_len (h := [a0, a1, a2, a3', a4', a5, a6, a7]) rfl ((L.drop p).take 128)); rw [hz]; have HZZ : Hid _ := hz; clear hz; have LA5 := LAd.go hb6; replace d0 := LA5.g5.u64 0 (by simp); replace d1 := LA5.g5.u64 1 (by simp); replace d2 := LA5.g5.u64 2 (by simp); replace d3 := LA5.g5.u64 3 (by simp); replace d4 := LA5.g5.u64 4 (by simp); replace d5 := LA5.g5.u64 5 (by simp); replace d6 := LA5.g5.u64 6 (by simp); replace d7 := LA5.g5.u64 7 (by simp); have ff := LA5.g5.frozen; simp at d0 d1 d2 d3 d4 d5 d6 d7)
       all_goals
        have LA6 := LA5.set8 z0 z1 z2 z3 z4 z5 z6 z7
        have hf : fldw H L (k + 1) = [z0, z1, z2, z3, z4, z5, z6, z7] := by
         show blkw (fldw H L k) ((L.drop (128 * k)).take 128) = _
         rw [HST.out, ← HP.out]; exact HZZ.out
        rw [← hf] at LA6
        clear hf HZZ LA5 LAd d0 d1 d2 d3 d4 d5 d6 d7 ff hbp
        go_wp2
        go_roundw
        case rel => exact ⟨k + 1, p + 128, by have := HP.out; omega, by omega, by go_num, LA6⟩
        case measure => simp [intOf]; omega
      ·obtain rfl : p = q := by omega
       have hkq : p / 128 = k := by omega
       have hfl := fldw_len h8 L k
       have HSW : Hid (∀ x ∈ fldw H L k, 0 ≤ x ∧ x < 18446744073709551616) := fldw_word HWD.out L k
       obtain ⟨st, hst⟩ : ∃ st, st = fldw H L k := ⟨_, rfl⟩
       have HFIN2 : Hid (sumOfW xs = sumW st) := by unfold Hid; rw [HFIN.out, hkq, hst]
       rw [← hst] at LA hfl HSW
       clear hp hkq hst HFIN
       have hlt' : ¬ ((p : Int) < (p : Int)) := by omega
       go_wp2
       obtain ⟨X, hX⟩ : ∃ X, X = wr := ⟨_, rfl⟩
       rw [← hX] at LA ⊢
       clear hX
       have hXs := LA.fr.size
       go_loopw [8, 9] (fun v i wr => ∃ k m : Nat, m = 8 * k ∧ k ≤ 8 ∧ i = .int .i64 k ∧ wr.ownsRow X.heap.size 5 1 v m (U8 (sumW (st.take k))) ∧ Below X.heap.size X wr) (fun _ i _ => 8 - (intOf i).toNat)
       case atStart => exact ⟨0, 0, rfl, by omega, rfl, by simpa [sumW] using World.ownsRow_nil _ _ _ _, Below.refl _ _⟩
       case round =>
        obtain ⟨k, m, hm, hk, rfl, hown, hb⟩ := hrel
        by_cases hlt : k < 8
        ·obtain ⟨x, hx⟩ : ∃ x, x = st.getD k 0 := ⟨_, rfl⟩
         have ckX := LA.g5.u64 k (by omega)
         rw [← hx] at ckX
         have hGX := LA.g5.lt
         obtain ⟨hx0, hx1⟩ : 0 ≤ x ∧ x < 18446744073709551616 := by rw [hx]; exact HSW.out _ (getD_memW (by omega))
         have hsn := take_snoc st k (by omega)
         rw [← hx] at hsn
         have HN : Hid _ := sumW_snoc hsn
         have HM8 : Hid _ := hm
         have hk8 : (k : Int) < 8 := by omega
         have hm56 : m ≤ 56 := by omega
         clear hx hsn hm
         go_wp2
         go_loopw [8, 10] (fun v i wr => ∃ j q : Nat, q = m + j ∧ j ≤ 8 ∧ i = .int .i64 (7 - (j : Int)) ∧ wr.ownsRow X.heap.size 5 1 v q (U8 (sumW (st.take k) ++ b8 x j)) ∧ Below X.heap.size X wr) (fun _ i _ => (intOf i + 1).toNat)
         case atStart => exact ⟨0, m, rfl, by omega, rfl, by simpa [b8] using hown, hb⟩
         case round =>
          clear hown hb
          obtain ⟨j, q, hq, hj, rfl, ho, hb⟩ := hrel
          by_cases hj8 : j < 8
          ·have hj0 : (0 : Int) ≤ 7 - (j : Int) := by omega
           have hj1 : IntKind.i64.wrap (8 * (7 - (j : Int))) = 56 - 8 * (j : Int) := by rw [IntKind.wrap_i64]; omega
           have hj2 : (0 : Int) ≤ 56 - 8 * (j : Int) := by omega
           have hj3 : (56 - 8 * (j : Int)).toNat = 56 - 8 * j := by omega
           have hj4 : 56 - 8 * (j : Int) < 64 := by omega
           have hj5 : 56 - 8 * j < 64 := by omega
           have hk0 : (0 : Int) ≤ (k : Int) := by omega
           have hq64 : q ≤ 64 := by omega
           have ck : wr.cell? ⟨G, k, none⟩ = some (.int .u64 x) := (hb.cell (p := ⟨G, k, none⟩) hGX).trans ckX
           have HQ : Hid _ := hq
           have hsz' := hb.size
           have hcv : IntKind.u8.wrap (x / 2 ^ (56 - 8 * j)) = x / 2 ^ (56 - 8 * j) % 256 := IntKind.wrap_u8 _
           clear hq
           go_wp2_with (at_builtin; refine wpl_append_bs rfl _ _ rfl X.heap.size _ q (sumW (st.take k) ++ b8 x j) rfl (some ⟨wr.heap.size, 0, none⟩) 1 1 [x / 2 ^ (56 - 8 * j) % 256] rfl (ho.alloc _) (Bs.one _ _ (by omega) (by omega)) ?_ ?_ ?_)
           ·omega
           ·first | omega | (simp; omega)
           intro v' w' h1 h2 _
           have hb2 := below_app hb (by omega) ho h2
           have HR : Hid (w'.ownsRow X.heap.size 5 1 v' (q + 1) (U8 (sumW (st.take k) ++ b8 x (j + 1)))) := by
            unfold Hid
            rw [b8_succ]; simpa using h1
           clear h1 h2 ho hb ck
           go_wp2
           go_roundw
           case rel => exact ⟨j + 1, q + 1, by have := HQ.out; omega, by omega, by go_num, HR.out, hb2⟩
           case measure => simp [intOf]; omega
          ·obtain rfl : j = 8 := by omega
           have hj0 : ¬ ((0 : Int) ≤ 7 - ((8 : Nat) : Int)) := by omega
           rw [← HN.out] at ho
           have HO : Hid _ := ho
           have HQ : Hid _ := hq
           clear ho hq
           go_wp2
           go_roundw
           case rel => exact ⟨k + 1, q, by have := HQ.out; have := HM8.out; omega, by omega, by go_num, HO.out, hb⟩
           case measure => simp [intOf]; omega
        ·obtain rfl : k = 8 := by omega
         obtain rfl : m = 64 := hm
         rw [List.take_of_length_le (show st.length ≤ 8 by omega), ← HFIN2.out] at hown
         have fr := LA.fr.trans (hb.mono LA.fr.size)
         have ho' := own_base hown hXs
         go_wp2
         go_ret
         exact ⟨_, rfl, ho', fr⟩

end Go.Proofs.YtihoaakbkffejaaGreatDoor
namespace Go.Proofs.YtihoaakbkffejaaGreatDoor
open Go.RowKit
set_option maxRecDepth 100000

set_option maxHeartbeats 8000000 in
theorem implJoined (P Q : E4) (w : World) (hP : P.Ok) (hQ : Q.Ok) (hV : Vr w 4 (I64 PL)) (hD : Vr w 5 (I64 DL)) :
  Calls Tryz.prog 68 #[.agg (I64 P.cells).toArray, .iface 67 (.agg (I64 Q.cells).toArray)] w fun e w' => e = .returned (.iface 67 (.agg (I64 (join6 P Q).cells).toArray)) ∧ Below w.heap.size w w' := by
 obtain ⟨f1, ef1⟩ : ∃ x_, x_ = red (val P.a * val Q.b) := ⟨_, rfl⟩
 have kf1 : feOk f1 = true := by rw [ef1]; exact ok_red _
 obtain ⟨f2, ef2⟩ : ∃ x_, x_ = red (val P.b * val Q.a) := ⟨_, rfl⟩
 have kf2 : feOk f2 = true := by rw [ef2]; exact ok_red _
 obtain ⟨f, ef⟩ : ∃ x_, x_ = red (val f1 + val f2) := ⟨_, rfl⟩
 have kf : feOk f = true := by rw [ef]; exact ok_red _
 obtain ⟨k1, ek1⟩ : ∃ x_, x_ = red (val P.b * val Q.b) := ⟨_, rfl⟩
 have kk1 : feOk k1 = true := by rw [ek1]; exact ok_red _
 obtain ⟨k2, ek2⟩ : ∃ x_, x_ = red (val P.a * val Q.a) := ⟨_, rfl⟩
 have kk2 : feOk k2 = true := by rw [ek2]; exact ok_red _
 obtain ⟨k, ek⟩ : ∃ x_, x_ = red (val k1 + val k2) := ⟨_, rfl⟩
 have kk : feOk k = true := by rw [ek]; exact ok_red _
 obtain ⟨o, eo⟩ : ∃ x_, x_ = red (val P.c * val Q.c) := ⟨_, rfl⟩
 have ko : feOk o = true := by rw [eo]; exact ok_red _
 obtain ⟨t1, et1⟩ : ∃ x_, x_ = red (val P.t * val Q.t) := ⟨_, rfl⟩
 have kt1 : feOk t1 = true := by rw [et1]; exact ok_red _
 obtain ⟨p, ep⟩ : ∃ x_, x_ = red (val DL * val t1) := ⟨_, rfl⟩
 have kp : feOk p = true := by rw [ep]; exact ok_red _
 obtain ⟨h, eh⟩ : ∃ x_, x_ = red (val o + val p) := ⟨_, rfl⟩
 have kh : feOk h = true := by rw [eh]; exact ok_red _
 obtain ⟨g, eg⟩ : ∃ x_, x_ = red (val o - val p) := ⟨_, rfl⟩
 have kg : feOk g = true := by rw [eg]; exact ok_red _
 have Hf1 : Hid (∀ Z, Vr Z 4 (I64 PL) → Calls Tryz.prog 98 #[.agg (I64 P.a).toArray, .agg (I64 Q.b).toArray] Z fun e w' => e = .returned (.agg (I64 f1).toArray) ∧ Below Z.heap.size Z w') := by
  unfold Hid; intro Z hZ; rw [ef1]; exact mulI hP.a hQ.b Z hZ
 have Hf2 : Hid (∀ Z, Vr Z 4 (I64 PL) → Calls Tryz.prog 98 #[.agg (I64 P.b).toArray, .agg (I64 Q.a).toArray] Z fun e w' => e = .returned (.agg (I64 f2).toArray) ∧ Below Z.heap.size Z w') := by
  unfold Hid; intro Z hZ; rw [ef2]; exact mulI hP.b hQ.a Z hZ
 have Hf : Hid (∀ Z, Vr Z 4 (I64 PL) → Calls Tryz.prog 100 #[.agg (I64 f1).toArray, .agg (I64 f2).toArray] Z fun e w' => e = .returned (.agg (I64 f).toArray) ∧ Below Z.heap.size Z w') := by
  unfold Hid; intro Z hZ; rw [ef]; exact sumI kf1 kf2 Z hZ
 have Hk1 : Hid (∀ Z, Vr Z 4 (I64 PL) → Calls Tryz.prog 98 #[.agg (I64 P.b).toArray, .agg (I64 Q.b).toArray] Z fun e w' => e = .returned (.agg (I64 k1).toArray) ∧ Below Z.heap.size Z w') := by
  unfold Hid; intro Z hZ; rw [ek1]; exact mulI hP.b hQ.b Z hZ
 have Hk2 : Hid (∀ Z, Vr Z 4 (I64 PL) → Calls Tryz.prog 98 #[.agg (I64 P.a).toArray, .agg (I64 Q.a).toArray] Z fun e w' => e = .returned (.agg (I64 k2).toArray) ∧ Below Z.heap.size Z w') := by
  unfold Hid; intro Z hZ; rw [ek2]; exact mulI hP.a hQ.a Z hZ
 have Hk : Hid (∀ Z, Vr Z 4 (I64 PL) → Calls Tryz.prog 100 #[.agg (I64 k1).toArray, .agg (I64 k2).toArray] Z fun e w' => e = .returned (.agg (I64 k).toArray) ∧ Below Z.heap.size Z w') := by
  unfold Hid; intro Z hZ; rw [ek]; exact sumI kk1 kk2 Z hZ
 have Ho : Hid (∀ Z, Vr Z 4 (I64 PL) → Calls Tryz.prog 98 #[.agg (I64 P.c).toArray, .agg (I64 Q.c).toArray] Z fun e w' => e = .returned (.agg (I64 o).toArray) ∧ Below Z.heap.size Z w') := by
  unfold Hid; intro Z hZ; rw [eo]; exact mulI hP.c hQ.c Z hZ
 have Ht1 : Hid (∀ Z, Vr Z 4 (I64 PL) → Calls Tryz.prog 98 #[.agg (I64 P.t).toArray, .agg (I64 Q.t).toArray] Z fun e w' => e = .returned (.agg (I64 t1).toArray) ∧ Below Z.heap.size Z w') := by
  unfold Hid; intro Z hZ; rw [et1]; exact mulI hP.t hQ.t Z hZ
 have Hp : Hid (∀ Z, Vr Z 4 (I64 PL) → Calls Tryz.prog 98 #[.agg (I64 DL).toArray, .agg (I64 t1).toArray] Z fun e w' => e = .returned (.agg (I64 p).toArray) ∧ Below Z.heap.size Z w') := by
  unfold Hid; intro Z hZ; rw [ep]; exact mulI DL_ok kt1 Z hZ
 have Hh : Hid (∀ Z, Vr Z 4 (I64 PL) → Calls Tryz.prog 100 #[.agg (I64 o).toArray, .agg (I64 p).toArray] Z fun e w' => e = .returned (.agg (I64 h).toArray) ∧ Below Z.heap.size Z w') := by
  unfold Hid; intro Z hZ; rw [eh]; exact sumI ko kp Z hZ
 have Hg : Hid (∀ Z, Vr Z 4 (I64 PL) → Calls Tryz.prog 99 #[.agg (I64 o).toArray, .agg (I64 p).toArray] Z fun e w' => e = .returned (.agg (I64 g).toArray) ∧ Below Z.heap.size Z w') := by
  unfold Hid; intro Z hZ; rw [eg]; exact subI ko kp Z hZ
 obtain ⟨R, hR⟩ : ∃ R, R = join6 P Q := ⟨_, rfl⟩
 have hRo : R.Ok := by rw [hR]; exact long6_ok _ _ _ _
 have hRe : long6 f k h g = R := by rw [hR]; simp only [join6, ef1, ef2, ef, ek1, ek2, ek, eo, et1, ep, eh, eg]
 have HR : Hid (∀ Z, Vr Z 4 (I64 PL) → Calls Tryz.prog 111 #[.agg (I64 f).toArray, .agg (I64 k).toArray, .agg (I64 h).toArray, .agg (I64 g).toArray] Z fun e w' => e = .returned (.agg (I64 R.cells).toArray) ∧ Below Z.heap.size Z w') := by
  unfold Hid; intro Z hZ; rw [← hRe]; exact implLongOf f k h g Z kf kk kh kg hZ
 rw [← hR]
 have jf := infoL' kf
 have iif := infoLl kf
 have nf := feOk_len kf
 have uf := one_lm f
 have jk := infoL' kk
 have iik := infoLl kk
 have nk := feOk_len kk
 have uk := one_lm k
 have jo := infoL' ko
 have iio := infoLl ko
 have no := feOk_len ko
 have uo := one_lm o
 have jp := infoL' kp
 have iip := infoLl kp
 have np := feOk_len kp
 have up := one_lm p
 have iPa := infoLl hP.a
 have iPb := infoLl hP.b
 have iPc := infoLl hP.c
 have iPt := infoLl hP.t
 have iQa := infoLl hQ.a
 have iQb := infoLl hQ.b
 have iQc := infoLl hQ.c
 have iQt := infoLl hQ.t
 have iDL := infoLl DL_ok
 have hiQ := infoLp' hQ
 have hQl := E4.len hQ
 have hu : Tryz.prog.underlying 65 = some (.array 16 3) := Tryz.underlying65
 have has : ∀ (v : Value) (w : World), (Instr.typeAssert (.iface 67 v) 111 67 false).run Tryz.prog w = .ok v w := assert_lp
 obtain ⟨A0, hA0⟩ : ∃ A, A = (I64 P.cells).toArray := ⟨_, rfl⟩
 obtain ⟨W, hW⟩ : ∃ W, W = w.alloc (.cells A0 67) := ⟨_, rfl⟩
 have fr : Below w.heap.size w W := by rw [hW]; exact ((Below.refl _ _).alloc (Nat.le_refl _) _)
 have pa : Arr W w.heap.size 67 (I64 P.cells) := by
  rw [hW, hA0]
  have := Arr.new (w) (I64 P.cells) 67
  exact this
 have h0P := hV.lt
 have vP := hV.kept fr
 have h0D := hD.lt
 have vD := hD.kept fr
 rw [← hA0]
 clear hA0
 clear hV hD
 clear hR hRe ef1 kf1 ef2 kf2 ef kf ek1 kk1 ek2 kk2 ek kk eo ko et1 kt1 ep kp eh kh eg kg
 go_enter Tryz.func68, Tryz.ntmps68
 go_upto_region 1 with fail
 rw [← hW]
 clear hW
 have hXq : w.heap.size < W.heap.size ∧ w.heap.size ≤ W.heap.size := ⟨pa.lt, fr.size⟩
 obtain ⟨bV, Aq, q1⟩ := laid_lp W Q.cells
 replace fr := fr.trans (bV.mono fr.size)
 replace pa := pa.kept bV
 replace vP := vP.kept bV
 replace vD := vD.kept bV
 go_upto_region 2 with (refine wpList_store_row rfl 67 _ _ rfl W.heap.size (I64 Q.cells).toArray rfl rfl 67 _ q1 hiQ (by simp [hQl]) (by simp [Value.oneCell']) ?_)
 obtain ⟨V1, hVV⟩ : ∃ V, V = (W.alloc (.cells #[.int .i64 0, .int .i64 0, .int .i64 0, .int .i64 0, .int .i64 0, .int .i64 0, .int .i64 0, .int .i64 0, .int .i64 0, .int .i64 0, .int .i64 0, .int .i64 0, .int .i64 0, .int .i64 0, .int .i64 0, .int .i64 0, .int .i64 0, .int .i64 0, .int .i64 0, .int .i64 0, .int .i64 0, .int .i64 0, .int .i64 0, .int .i64 0, .int .i64 0, .int .i64 0, .int .i64 0, .int .i64 0, .int .i64 0, .int .i64 0, .int .i64 0, .int .i64 0, .int .i64 0, .int .i64 0, .int .i64 0, .int .i64 0, .int .i64 0, .int .i64 0, .int .i64 0, .int .i64 0, .int .i64 0, .int .i64 0, .int .i64 0, .int .i64 0, .int .i64 0, .int .i64 0, .int .i64 0, .int .i64 0, .int .i64 0, .int .i64 0, .int .i64 0, .int .i64 0, .int .i64 0, .int .i64 0, .int .i64 0, .int .i64 0, .int .i64 0, .int .i64 0, .int .i64 0, .int .i64 0, .int .i64 0, .int .i64 0, .int .i64 0, .int .i64 0] 67)).setRow W.heap.size (I64 Q.cells).toArray := ⟨_, rfl⟩
 obtain ⟨Xq, hE⟩ : ∃ E, E = W.heap.size := ⟨_, rfl⟩
 rw [← hVV] at fr pa vP vD Aq ⊢
 rw [← hE] at Aq hXq ⊢
 clear hVV hE q1 bV
 try simp only [Act.put]
 refine tame [kc 12 (.pointer (some ⟨w.heap.size, 0, none⟩)), kc 13 (.agg (I64 P.a).toArray), kc 14 (.pointer (some ⟨Xq, 16, none⟩)), kc 15 (.agg (I64 Q.b).toArray), kc 16 (.agg (I64 f1).toArray), kc 17 (.pointer (some ⟨w.heap.size, 16, none⟩)), kc 18 (.agg (I64 P.b).toArray), kc 19 (.pointer (some ⟨Xq, 0, none⟩)), kc 20 (.agg (I64 Q.a).toArray), kc 21 (.agg (I64 f2).toArray), kc 22 (.agg (I64 f).toArray), ka 6 65 (I64 Z16)] 12 (by kernel_rfl) (by kernel_rfl) (by kernel_rfl) (by repeat' first | exact trivial | apply kc_keeps | apply ka_keeps | constructor) 1 (by kernel_rfl) (fun vv1 ll1 hh1 y b => ?_) (fun vv1 ll1 hh1 y b F iv ap => ?_)
 ·skip
  replace fr := fr.trans (b.mono fr.size)
  replace pa := pa.kept b
  replace vP := vP.kept b
  replace vD := vD.kept b
  replace Aq := Aq.kept b
  exact ⟨tp (by kernel_rfl),
   tl (E4.ra pa) iPa hu (by kernel_rfl),
   tp (by kernel_rfl),
   tl (E4.rb hQ Aq) iQb hu (by kernel_rfl),
   tc (Hf1.out _ vP) (by kernel_rfl),
   tp (by kernel_rfl),
   tl (E4.rb hP pa) iPb hu (by kernel_rfl),
   tp (by kernel_rfl),
   tl (E4.ra Aq) iQa hu (by kernel_rfl),
   tc (Hf2.out _ vP) (by kernel_rfl),
   tc (Hf.out _ vP) (by kernel_rfl),
   ta (by kernel_rfl), trivial⟩
 obtain ⟨y2, hy⟩ : ∃ z, z = y := ⟨_, rfl⟩
 rw [← hy] at b F iv ⊢
 clear hy
 have oq : w.heap.size < V1.heap.size ∧ Xq < V1.heap.size ∧ w.heap.size ≤ V1.heap.size := ⟨pa.lt, Aq.lt, fr.size⟩
 replace fr := fr.trans (b.mono fr.size)
 replace pa := pa.kept b
 replace vP := vP.kept b
 replace vD := vD.kept b
 replace Aq := Aq.kept b
 obtain ⟨-, -, -, -, -, -, -, -, -, -, -, ⟨Af, gXf⟩, -⟩ := F
 have iXf := iv 11 (by decide)
 replace Af : Arr y2 (ll1 11) 65 (I64 Z16) := Af
 replace gXf : ll1 11 < hh1 11 := gXf
 have lXf := Af.lt
 refine st_row (i := 12) (by kernel_rfl) rfl rfl rfl rfl Af (by kernel_rfl) (by kernel_rfl) (by simp [nf]) jf uf ?_
 replace fr := bel_sc fr (ll1 11) (I64 f) (by omega)
 replace pa := pa.sc (ll1 11) (I64 f) (by omega)
 replace vP := vP.sc (ll1 11) (I64 f) (by omega)
 replace vD := vD.sc (ll1 11) (I64 f) (by omega)
 replace Aq := Aq.sc (ll1 11) (I64 f) (by omega)
 replace Af := Af.sc0 (I64 f) (by simp [nf])
 obtain ⟨V3, hVe⟩ : ∃ V, V = y2.setCells (ll1 11) 0 (I64 f) := ⟨_, rfl⟩
 rw [← hVe] at fr pa vP vD Aq Af ⊢
 clear hVe
 refine wpAny_done (by kernel_rfl) ?_ _
 simp only [fillK, putT, List.setIfInBounds_toArray, List.set_cons_zero, List.set_cons_succ]
 generalize ll1 11 = Xf at *
 clear iv ap b oq
 go_wp2
 try simp only [Act.put]
 refine tame [kc 23 (.pointer (some ⟨w.heap.size, 16, none⟩)), kc 24 (.agg (I64 P.b).toArray), kc 25 (.pointer (some ⟨Xq, 16, none⟩)), kc 26 (.agg (I64 Q.b).toArray), kc 27 (.agg (I64 k1).toArray), kc 28 (.pointer (some ⟨w.heap.size, 0, none⟩)), kc 29 (.agg (I64 P.a).toArray), kc 30 (.pointer (some ⟨Xq, 0, none⟩)), kc 31 (.agg (I64 Q.a).toArray), kc 32 (.agg (I64 k2).toArray), kc 33 (.agg (I64 k).toArray), ka 7 65 (I64 Z16)] 12 (by kernel_rfl) (by kernel_rfl) (by kernel_rfl) (by repeat' first | exact trivial | apply kc_keeps | apply ka_keeps | constructor) 1 (by kernel_rfl) (fun vv2 ll2 hh2 y b => ?_) (fun vv2 ll2 hh2 y b F iv ap => ?_)
 ·skip
  replace fr := fr.trans (b.mono fr.size)
  replace pa := pa.kept b
  replace vP := vP.kept b
  replace vD := vD.kept b
  replace Aq := Aq.kept b
  replace Af := Af.kept b
  exact ⟨tp (by kernel_rfl),
   tl (E4.rb hP pa) iPb hu (by kernel_rfl),
   tp (by kernel_rfl),
   tl (E4.rb hQ Aq) iQb hu (by kernel_rfl),
   tc (Hk1.out _ vP) (by kernel_rfl),
   tp (by kernel_rfl),
   tl (E4.ra pa) iPa hu (by kernel_rfl),
   tp (by kernel_rfl),
   tl (E4.ra Aq) iQa hu (by kernel_rfl),
   tc (Hk2.out _ vP) (by kernel_rfl),
   tc (Hk.out _ vP) (by kernel_rfl),
   ta (by kernel_rfl), trivial⟩
 obtain ⟨y4, hy⟩ : ∃ z, z = y := ⟨_, rfl⟩
 rw [← hy] at b F iv ⊢
 clear hy
 have oq : w.heap.size < V3.heap.size ∧ Xq < V3.heap.size ∧ Xf < V3.heap.size ∧ w.heap.size ≤ V3.heap.size := ⟨pa.lt, Aq.lt, Af.lt, fr.size⟩
 replace fr := fr.trans (b.mono fr.size)
 replace pa := pa.kept b
 replace vP := vP.kept b
 replace vD := vD.kept b
 replace Aq := Aq.kept b
 replace Af := Af.kept b
 obtain ⟨-, -, -, -, -, -, -, -, -, -, -, ⟨Ak, gXk⟩, -⟩ := F
 have iXk := iv 11 (by decide)
 replace Ak : Arr y4 (ll2 11) 65 (I64 Z16) := Ak
 replace gXk : ll2 11 < hh2 11 := gXk
 have lXk := Ak.lt
 refine st_row (i := 12) (by kernel_rfl) rfl rfl rfl rfl Ak (by kernel_rfl) (by kernel_rfl) (by simp [nk]) jk uk ?_
 replace fr := bel_sc fr (ll2 11) (I64 k) (by omega)
 replace pa := pa.sc (ll2 11) (I64 k) (by omega)
 replace vP := vP.sc (ll2 11) (I64 k) (by omega)
 replace vD := vD.sc (ll2 11) (I64 k) (by omega)
 replace Aq := Aq.sc (ll2 11) (I64 k) (by omega)
 replace Af := Af.sc (ll2 11) (I64 k) (by omega)
 replace Ak := Ak.sc0 (I64 k) (by simp [nk])
 obtain ⟨V5, hVe⟩ : ∃ V, V = y4.setCells (ll2 11) 0 (I64 k) := ⟨_, rfl⟩
 rw [← hVe] at fr pa vP vD Aq Af Ak ⊢
 clear hVe
 refine wpAny_done (by kernel_rfl) ?_ _
 simp only [fillK, putT, List.setIfInBounds_toArray, List.set_cons_zero, List.set_cons_succ]
 generalize ll2 11 = Xk at *
 clear iv ap b oq
 go_wp2
 try simp only [Act.put]
 refine tame [kc 34 (.pointer (some ⟨w.heap.size, 32, none⟩)), kc 35 (.agg (I64 P.c).toArray), kc 36 (.pointer (some ⟨Xq, 32, none⟩)), kc 37 (.agg (I64 Q.c).toArray), kc 38 (.agg (I64 o).toArray), kc 39 (.agg (I64 DL).toArray), kc 40 (.pointer (some ⟨w.heap.size, 48, none⟩)), kc 41 (.agg (I64 P.t).toArray), kc 42 (.pointer (some ⟨Xq, 48, none⟩)), kc 43 (.agg (I64 Q.t).toArray), kc 44 (.agg (I64 t1).toArray), kc 45 (.agg (I64 p).toArray), ka 8 65 (I64 Z16), ka 9 65 (I64 Z16)] 14 (by kernel_rfl) (by kernel_rfl) (by kernel_rfl) (by repeat' first | exact trivial | apply kc_keeps | apply ka_keeps | constructor) 2 (by kernel_rfl) (fun vv3 ll3 hh3 y b => ?_) (fun vv3 ll3 hh3 y b F iv ap => ?_)
 ·skip
  replace fr := fr.trans (b.mono fr.size)
  replace pa := pa.kept b
  replace vP := vP.kept b
  replace vD := vD.kept b
  replace Aq := Aq.kept b
  replace Af := Af.kept b
  replace Ak := Ak.kept b
  exact ⟨tp (by kernel_rfl),
   tl (E4.rc hP pa) iPc hu (by kernel_rfl),
   tp (by kernel_rfl),
   tl (E4.rc hQ Aq) iQc hu (by kernel_rfl),
   tc (Ho.out _ vP) (by kernel_rfl),
   tl (vr_range vD) iDL hu (by kernel_rfl),
   tp (by kernel_rfl),
   tl (E4.rt hP pa) iPt hu (by kernel_rfl),
   tp (by kernel_rfl),
   tl (E4.rt hQ Aq) iQt hu (by kernel_rfl),
   tc (Ht1.out _ vP) (by kernel_rfl),
   tc (Hp.out _ vP) (by kernel_rfl),
   ta (by kernel_rfl),
   ta (by kernel_rfl), trivial⟩
 obtain ⟨y6, hy⟩ : ∃ z, z = y := ⟨_, rfl⟩
 rw [← hy] at b F iv ⊢
 clear hy
 have oq : w.heap.size < V5.heap.size ∧ Xq < V5.heap.size ∧ Xf < V5.heap.size ∧ Xk < V5.heap.size ∧ w.heap.size ≤ V5.heap.size := ⟨pa.lt, Aq.lt, Af.lt, Ak.lt, fr.size⟩
 replace fr := fr.trans (b.mono fr.size)
 replace pa := pa.kept b
 replace vP := vP.kept b
 replace vD := vD.kept b
 replace Aq := Aq.kept b
 replace Af := Af.kept b
 replace Ak := Ak.kept b
 obtain ⟨-, -, -, -, -, -, -, -, -, -, -, -, ⟨Ao, gXo⟩, ⟨Ap, gXp⟩, -⟩ := F
 have iXo := iv 12 (by decide)
 have iXp := iv 13 (by decide)
 have pXoXp := ap 12 13 (by decide) (by decide) (by decide)
 replace Ao : Arr y6 (ll3 12) 65 (I64 Z16) := Ao
 replace gXo : ll3 12 < hh3 12 := gXo
 have lXo := Ao.lt
 replace Ap : Arr y6 (ll3 13) 65 (I64 Z16) := Ap
 replace gXp : ll3 13 < hh3 13 := gXp
 have lXp := Ap.lt
 refine st_row (i := 14) (by kernel_rfl) rfl rfl rfl rfl Ao (by kernel_rfl) (by kernel_rfl) (by simp [no]) jo uo ?_
 replace fr := bel_sc fr (ll3 12) (I64 o) (by omega)
 replace pa := pa.sc (ll3 12) (I64 o) (by omega)
 replace vP := vP.sc (ll3 12) (I64 o) (by omega)
 replace vD := vD.sc (ll3 12) (I64 o) (by omega)
 replace Aq := Aq.sc (ll3 12) (I64 o) (by omega)
 replace Af := Af.sc (ll3 12) (I64 o) (by omega)
 replace Ak := Ak.sc (ll3 12) (I64 o) (by omega)
 replace Ao := Ao.sc0 (I64 o) (by simp [no])
 replace Ap := Ap.sc (ll3 12) (I64 o) (by omega)
 obtain ⟨V7, hVe⟩ : ∃ V, V = y6.setCells (ll3 12) 0 (I64 o) := ⟨_, rfl⟩
 rw [← hVe] at fr pa vP vD Aq Af Ak Ao Ap ⊢
 clear hVe
 refine st_row (i := 15) (by kernel_rfl) rfl rfl rfl rfl Ap (by kernel_rfl) (by kernel_rfl) (by simp [np]) jp up ?_
 replace fr := bel_sc fr (ll3 13) (I64 p) (by omega)
 replace pa := pa.sc (ll3 13) (I64 p) (by omega)
 replace vP := vP.sc (ll3 13) (I64 p) (by omega)
 replace vD := vD.sc (ll3 13) (I64 p) (by omega)
 replace Aq := Aq.sc (ll3 13) (I64 p) (by omega)
 replace Af := Af.sc (ll3 13) (I64 p) (by omega)
 replace Ak := Ak.sc (ll3 13) (I64 p) (by omega)
 replace Ao := Ao.sc (ll3 13) (I64 p) (by omega)
 replace Ap := Ap.sc0 (I64 p) (by simp [np])
 obtain ⟨V8, hVe⟩ : ∃ V, V = V7.setCells (ll3 13) 0 (I64 p) := ⟨_, rfl⟩
 rw [← hVe] at fr pa vP vD Aq Af Ak Ao Ap ⊢
 clear hVe
 refine wpAny_done (by kernel_rfl) ?_ _
 simp only [fillK, putT, List.setIfInBounds_toArray, List.set_cons_zero, List.set_cons_succ]
 generalize ll3 12 = Xo at *
 generalize ll3 13 = Xp at *
 clear iv ap b oq
 go_wp2
 clear pa
 clear Aq
 try simp only [Act.put]
 refine tame [kc 46 (.agg (I64 f).toArray), kc 47 (.agg (I64 k).toArray), kc 48 (.agg (I64 o).toArray), kc 49 (.agg (I64 p).toArray), kc 50 (.agg (I64 h).toArray), kc 51 (.agg (I64 o).toArray), kc 52 (.agg (I64 p).toArray), kc 53 (.agg (I64 g).toArray), kc 54 (.agg (I64 R.cells).toArray), kc 55 (.iface 67 (.agg (I64 R.cells).toArray)), kc 4 (.iface 67 (.agg (I64 R.cells).toArray))] 11 (by kernel_rfl) (by kernel_rfl) (by kernel_rfl) (by repeat' first | exact trivial | apply kc_keeps | apply ka_keeps | constructor) 0 (by kernel_rfl) (fun vv4 ll4 hh4 y b => ?_) (fun vv4 ll4 hh4 y b F iv ap => ?_)
 ·skip
  replace fr := fr.trans (b.mono fr.size)
  replace vP := vP.kept b
  replace vD := vD.kept b
  replace Af := Af.kept b
  replace Ak := Ak.kept b
  replace Ao := Ao.kept b
  replace Ap := Ap.kept b
  exact ⟨tl (arr_range Af) iif hu (by kernel_rfl),
   tl (arr_range Ak) iik hu (by kernel_rfl),
   tl (arr_range Ao) iio hu (by kernel_rfl),
   tl (arr_range Ap) iip hu (by kernel_rfl),
   tc (Hh.out _ vP) (by kernel_rfl),
   tl (arr_range Ao) iio hu (by kernel_rfl),
   tl (arr_range Ap) iip hu (by kernel_rfl),
   tc (Hg.out _ vP) (by kernel_rfl),
   tc (HR.out _ vP) (by kernel_rfl),
   tp (by kernel_rfl),
   tp (by kernel_rfl), trivial⟩
 obtain ⟨y9, hy⟩ : ∃ z, z = y := ⟨_, rfl⟩
 rw [← hy] at b F iv ⊢
 clear hy
 replace fr := fr.trans (b.mono fr.size)
 replace vP := vP.kept b
 replace vD := vD.kept b
 replace Af := Af.kept b
 replace Ak := Ak.kept b
 replace Ao := Ao.kept b
 replace Ap := Ap.kept b
 clear F
 refine wpAny_done (by kernel_rfl) ?_ _
 simp only [fillK, putT, List.setIfInBounds_toArray, List.set_cons_zero, List.set_cons_succ]
 clear iv ap b
 go_wp2
 go_ret
 exact ⟨rfl, fr⟩

end Go.Proofs.YtihoaakbkffejaaGreatDoor

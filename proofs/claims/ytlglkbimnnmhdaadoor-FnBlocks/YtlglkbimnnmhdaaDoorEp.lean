/-
  What is proved here: the bytes that are padded behind a message, and the contract of the program's shaPadded.
-/
import Derived.Test.YtlglkbimnnmhdaaDoorEm
namespace Go.Proofs.YtlglkbimnnmhdaaDoor
open Go.RowKit

/-- How many zeros follow the mark. -/
def zn (N : Int) : Nat := (119 - (N % 64).toNat) % 64
/-- The k-th byte of the length in bits, the greatest first. -/
def lenAt (N : Int) (k : Nat) : Int := 8 * N / 2 ^ (56 - 8 * k) % 256
def lenB (N : Int) (k : Nat) : List Int := (List.range k).map (lenAt N)
def padB (N : Int) : List Int := 128 :: (List.replicate (zn N) 0 ++ lenB N 8)
theorem lenB_succ (N : Int) (k : Nat) : lenB N (k + 1) = lenB N k ++ [lenAt N k] := by simp [lenB, List.range_succ]
theorem lenAt_byte (N : Int) (k : Nat) : 0 ≤ lenAt N k ∧ lenAt N k < 256 := by unfold lenAt; omega
theorem padB_len (N : Int) : (padB N).length = zn N + 9 := by simp [padB, lenB]
theorem padB_byte (N : Int) : ∀ x ∈ padB N, 0 ≤ x ∧ x < 256 := by
  intro x hx
  simp only [padB, lenB, List.mem_cons, List.mem_append, List.mem_replicate, List.mem_map] at hx
  rcases hx with rfl | ⟨_, rfl⟩ | ⟨k, _, rfl⟩
  · omega
  · omega
  · exact lenAt_byte N k
theorem zn_lt (N : Int) : zn N < 64 := Nat.mod_lt _ (by omega)

set_option maxHeartbeats 1000000 in
theorem implPadded (a : Option Addr) (n c : Nat) (ts : List Int) (N : Int) (w : World) (hT : Bs w a n c ts) (h0 : 0 ≤ N) (h1 : N ≤ 20000) (hn : (n : Int) = N % 64) :
    Calls Tryd.prog 47 #[.slice a n c, .int .i64 N] w fun e w' => ∃ v, e = .returned v ∧ w'.ownsRow w.heap.size 5 1 v (n + (zn N + 9)) (U8 (ts ++ padB N)) ∧ Below w.heap.size w w' := by
  have hzl := zn_lt N
  have hzn : (n + 1 + zn N) % 64 = 56 := by unfold zn; omega
  have hz' : ∀ k, k < zn N → (n + 1 + k) % 64 ≠ 56 := fun k hk => by unfold zn at hk; omega
  have HZ : Hid _ := hz'
  have hn64 : n < 64 := by omega
  clear hz'
  obtain ⟨z, hz⟩ : ∃ z, z = zn N := ⟨_, rfl⟩
  rw [← hz] at hzl hzn HZ
  have HZN : Hid _ := hz
  clear hz
  go_enter Tryd.func47, Tryd.ntmps47
  go_wp2_with fail
  refine (cloneB a n c ts _ hT (by omega)).mono ?_
  rintro e w1 ⟨v1, rfl, ho1, hb1⟩
  go_wp2_with (at_builtin; refine wpl_append_bs rfl _ _ rfl w.heap.size _ n ts rfl (some ⟨w1.heap.size, 0, none⟩) 1 1 [128] rfl (ho1.alloc _) ?_ ?_ ?_ ?_)
  · exact Bs.one _ _ (by omega) (by omega)
  · omega
  · have := hb1.size; first | omega | (simp; omega)
  intro v2 w2 ho2 hg2 _
  have hb2 := below_app hb1 hb1.size ho1 hg2
  clear ho1 hg2 hb1
  go_wp2
  have hby : ∀ k, ∀ x ∈ ts ++ 128 :: List.replicate k (0 : Int), 0 ≤ x ∧ x < 256 := by
    intro k x hx
    simp only [List.mem_append, List.mem_cons, List.mem_replicate] at hx
    rcases hx with h | rfl | ⟨_, rfl⟩
    · exact hT.2.2.2.1 x h
    · omega
    · omega
  have HBY : Hid _ := hby
  clear hby
  go_loopw [5] (fun v wr => ∃ k m : Nat, m = n + 1 + k ∧ k ≤ z ∧ wr.ownsRow w.heap.size 5 1 v m (U8 (ts ++ 128 :: List.replicate k 0)) ∧ Below w.heap.size w wr) (fun v _ => match v with | .slice _ m _ => n + 1 + z - m | _ => 0)
  case atStart => exact ⟨0, n + 1, rfl, by omega, by simpa using ho2, hb2⟩
  case round =>
    clear ho2 hb2
    obtain ⟨k, m, hm, hk, ho, hb⟩ := hrel
    obtain ⟨a3, c3, rfl, _, _⟩ := Bs.own ho (HBY.out k)
    have hsz := hb.size
    have HM : Hid _ := hm
    by_cases hkz : k < z
    · have hne := HZ.out k hkz
      have hr : ¬ ((m : Int) % 64 = 56) := by rw [hm]; omega
      clear hne
      have hm128 : m ≤ 200 := by omega
      clear hm
      go_wp2_with (at_builtin; refine wpl_append_bs rfl _ _ rfl w.heap.size _ m (ts ++ 128 :: List.replicate k 0) rfl (some ⟨wr.heap.size, 0, none⟩) 1 1 [0] rfl (ho.alloc _) ?_ ?_ ?_ ?_)
      · exact Bs.one _ _ (by omega) (by omega)
      · omega
      · first | omega | (simp; omega)
      intro v' w' h1 h2 _
      have hb2 := below_app hb (by omega) ho h2
      have HR : Hid (w'.ownsRow w.heap.size 5 1 v' (m + 1) (U8 (ts ++ 128 :: List.replicate (k + 1) 0))) := by
        unfold Hid
        rw [List.replicate_succ']; simpa using h1
      clear h1 h2 ho hb
      go_wp2
      go_roundw
      case rel => exact ⟨k + 1, m + 1, by have := HM.out; omega, by omega, HR.out, hb2⟩
      case measure =>
        obtain ⟨a4, c4, rfl, _, _⟩ := Bs.own HR.out (HBY.out (k + 1))
        have := HM.out
        simp
        omega
    · obtain rfl : k = z := by omega
      have hr : (m : Int) % 64 = 56 := by rw [hm]; omega
      have hm128 : m ≤ 200 := by omega
      clear hm
      go_wp2
      clear hr
      go_loopw [5, 6] (fun v i wr => ∃ j q : Nat, q = m + j ∧ j ≤ 8 ∧ i = .int .i64 (56 - 8 * (j : Int)) ∧ wr.ownsRow w.heap.size 5 1 v q (U8 (ts ++ 128 :: (List.replicate k 0 ++ lenB N j))) ∧ Below w.heap.size w wr) (fun _ i _ => (intOf i + 8).toNat)
      case atStart => exact ⟨0, m, rfl, by omega, rfl, by simpa [lenB] using ho, hb⟩
      case round =>
        clear ho hb
        obtain ⟨j, q, hq, hj, rfl, ho, hb⟩ := hrel
        by_cases hj8 : j < 8
        · have hj0 : (0 : Int) ≤ 56 - 8 * (j : Int) := by omega
          have hq210 : q ≤ 210 := by omega
          have HQ : Hid _ := hq
          have hsz' := hb.size
          clear hq
          go_wp2_with (at_builtin; refine wpl_append_bs rfl _ _ rfl w.heap.size _ q (ts ++ 128 :: (List.replicate k 0 ++ lenB N j)) rfl (some ⟨wr.heap.size, 0, none⟩) 1 1 [lenAt N j] rfl (ho.alloc _) ?_ ?_ ?_ ?_)
          · exact Bs.one _ _ (lenAt_byte N j).1 (lenAt_byte N j).2
          · omega
          · first | omega | (simp; omega)
          intro v' w' h1 h2 _
          have hb2 := below_app hb (by omega) ho h2
          have HR : Hid (w'.ownsRow w.heap.size 5 1 v' (q + 1) (U8 (ts ++ 128 :: (List.replicate k 0 ++ lenB N (j + 1))))) := by
            unfold Hid
            rw [lenB_succ]; simpa using h1
          clear h1 h2 ho hb
          go_wp2
          go_roundw
          case rel => exact ⟨j + 1, q + 1, by have := HQ.out; omega, by omega, by go_num, HR.out, hb2⟩
          case measure => simp [intOf]; omega
        · obtain rfl : j = 8 := by omega
          have hj0 : ¬ ((0 : Int) ≤ 56 - 8 * ((8 : Nat) : Int)) := by omega
          have hlen : n + (zn N + 9) = q := by rw [← HZN.out]; have := HM.out; omega
          have HL : Hid _ := hlen
          have hpad : ts ++ 128 :: (List.replicate k 0 ++ lenB N 8) = ts ++ padB N := by unfold padB; rw [← HZN.out]
          rw [hpad] at ho
          clear hq hlen hpad
          go_wp2
          go_ret
          refine ⟨_, rfl, ?_, hb⟩
          rw [HL.out]
          simpa using ho
end Go.Proofs.YtlglkbimnnmhdaaDoor

/-
  What is proved here: the contract of the program's shaPadded at words of 32 bits: the tail, the mark, as many zeros as are wanted, and the length in bits in 8 bytes; the contract of the program's shaPadded at words of 64 bits: the tail, the mark, as many zeros as are wanted, and the length in bits in 16 bytes.
-/
import Derived.Test.YtgapfkiceolceaaDoorQb
import Derived.Test.YtgapfkiceolceaaDoorQ3
import Derived.Test.YtgapfkiceolceaaDoorQg
import Derived.Test.YtgapfkiceolceaaDoorQ1
namespace Go.Proofs.YtgapfkiceolceaaDoor
open Go.RowKit
set_option maxRecDepth 100000

/-- How many zeros are wanted behind n bytes and the mark. -/
def zfn (n : Nat) : Nat := (119 - n % 64) % 64
theorem zfn_lt (n : Nat) : zfn n < 64 := Nat.mod_lt _ (by omega)
theorem zfn_is (n : Nat) : (n + 1 + zfn n) % 64 = 56 := by unfold zfn; omega
theorem zfn_no (n k : Nat) (h : k < zfn n) : (n + 1 + k) % 64 ≠ 56 := by unfold zfn at h; omega
/-- What is put behind n bytes of a sum over N bytes. -/
def pdn (n : Nat) (N : Int) : List Int := 128 :: (List.replicate (zfn n) 0 ++ hbk (8 * N) 8 8)
theorem pdn_len (n : Nat) (N : Int) : (pdn n N).length = zfn n + 9 := by simp [pdn, hbk_len]
theorem pdn_byte (n : Nat) (N : Int) : ∀ x ∈ pdn n N, 0 ≤ x ∧ x < 256 := by
  intro x hx
  simp only [pdn, List.mem_cons, List.mem_append, List.mem_replicate] at hx
  rcases hx with rfl | ⟨_, rfl⟩ | h
  · omega
  · omega
  · exact hbk_byte _ _ _ x h

set_option maxHeartbeats 1000000 in
theorem paddedCn (a : Option Addr) (n c : Nat) (ts : List Int) (N : Int) (w : World) (hT : Bs w a n c ts) (h0 : 0 ≤ N) (h1 : N ≤ 20000) (hn : n ≤ 20000) :
    Calls Tryd.prog 89 #[.slice a n c, .int .i64 N] w fun e w' => ∃ v, e = .returned v ∧ w'.ownsRow w.heap.size 5 1 v (n + (zfn n + 9)) (U8 (ts ++ pdn n N)) ∧ Below w.heap.size w w' := by
  have hzl := zfn_lt n
  have hzn := zfn_is n
  have HZ : Hid _ := zfn_no n
  obtain ⟨z, hz⟩ : ∃ z, z = zfn n := ⟨_, rfl⟩
  rw [← hz] at hzl hzn HZ
  have HZN : Hid _ := hz
  clear hz
  go_enter Tryd.func89, Tryd.ntmps89
  go_wp2_with (go_at_call 87; refine (wordBytesn _).mono ?_; rintro e w' ⟨rfl, hw'⟩; rw [hw']; clear hw' w')
  refine (cloneB a n c ts _ hT (by omega)).mono ?_
  rintro e w1 ⟨v1, rfl, ho1, hb1⟩
  go_wp2_with (at_builtin; refine wpl_append_bs rfl _ _ rfl w.heap.size _ n ts rfl (some ⟨w1.heap.size, 0, none⟩) 1 1 [128] rfl (ho1.alloc _) ?_ ?_ ?_ ?_)
  · exact Bs.one _ _ (by omega) (by omega)
  · omega
  · have := hb1.size; first | omega | (simp; omega)
  intro v2 w2 ho2 hg2 _
  have hb2 := below_app hb1 hb1.size ho1 hg2
  clear ho1 hg2 hb1
  go_wp2
  have hby : ∀ k, ∀ x ∈ ts ++ 128 :: List.replicate k (0 : Int), 0 ≤ x ∧ x < 256 := by
    intro k x hx
    simp only [List.mem_append, List.mem_cons, List.mem_replicate] at hx
    rcases hx with h | rfl | ⟨_, rfl⟩
    · exact hT.2.2.2.1 x h
    · omega
    · omega
  have HBY : Hid _ := hby
  clear hby
  go_loopw [7] (fun v wr => ∃ k m : Nat, m = n + 1 + k ∧ k ≤ z ∧ wr.ownsRow w.heap.size 5 1 v m (U8 (ts ++ 128 :: List.replicate k 0)) ∧ Below w.heap.size w wr) (fun v _ => match v with | .slice _ m _ => n + 1 + z - m | _ => 0)
  case atStart => exact ⟨0, n + 1, rfl, by omega, by simpa using ho2, hb2⟩
  case round =>
    clear ho2 hb2
    obtain ⟨k, m, hm, hk, ho, hb⟩ := hrel
    obtain ⟨a3, c3, rfl, _, _⟩ := Bs.own ho (HBY.out k)
    have hsz := hb.size
    have HM : Hid _ := hm
    by_cases hkz : k < z
    · have hne := HZ.out k hkz
      have hr : ¬ ((m : Int) % 64 = 56) := by rw [hm]; omega
      clear hne
      have hm128 : m ≤ 30000 := by omega
      clear hm
      go_wp2_with (at_builtin; refine wpl_append_bs rfl _ _ rfl w.heap.size _ m (ts ++ 128 :: List.replicate k 0) rfl (some ⟨wr.heap.size, 0, none⟩) 1 1 [0] rfl (ho.alloc _) ?_ ?_ ?_ ?_)
      · exact Bs.one _ _ (by omega) (by omega)
      · omega
      · first | omega | (simp; omega)
      intro v' w' h1 h2 _
      have hb2 := below_app hb (by omega) ho h2
      have HR : Hid (w'.ownsRow w.heap.size 5 1 v' (m + 1) (U8 (ts ++ 128 :: List.replicate (k + 1) 0))) := by
        unfold Hid
        rw [List.replicate_succ']; simpa using h1
      clear h1 h2 ho hb
      go_wp2
      go_roundw
      case rel => exact ⟨k + 1, m + 1, by have := HM.out; omega, by omega, HR.out, hb2⟩
      case measure =>
        obtain ⟨a4, c4, rfl, _, _⟩ := Bs.own HR.out (HBY.out (k + 1))
        have := HM.out
        simp
        omega
    · obtain rfl : k = z := by omega
      have hr : (m : Int) % 64 = 56 := by rw [hm]; omega
      have hm128 : m ≤ 30000 := by omega
      clear hm
      have hN8 : IntKind.i64.wrap (8 * N) = 8 * N := by rw [IntKind.wrap_i64]; omega
      have hN9 : IntKind.u64.wrap (8 * N) = 8 * N := by simp [IntKind.wrap, IntKind.signed, IntKind.bits]; omega
      have hH := highFirst w.heap.size m _ (ts ++ 128 :: List.replicate k 0) (8 * N) 8 wr ho hsz (by omega) (by omega) (by omega) (by omega)
      have hlen : n + (zfn n + 9) = m + 8 := by rw [← HZN.out]; have := HM.out; omega
      have HL : Hid _ := hlen
      have hpad : (ts ++ 128 :: List.replicate k 0) ++ hbk (8 * N) 8 8 = ts ++ pdn n N := by unfold pdn; rw [← HZN.out]; simp
      have HP : Hid _ := hpad
      clear hlen hpad
      go_wp2_with fail
      refine hH.mono ?_
      rintro e w3 ⟨v3, rfl, ho3, hb3⟩
      go_wp2
      go_ret
      refine ⟨_, rfl, ?_, hb.trans hb3⟩
      rw [HL.out, ← HP.out]
      exact ho3
end Go.Proofs.YtgapfkiceolceaaDoor
namespace Go.Proofs.YtgapfkiceolceaaDoor
open Go.RowKit
set_option maxRecDepth 100000

/-- How many zeros are wanted behind n bytes and the mark. -/
def zfw (n : Nat) : Nat := (239 - n % 128) % 128
theorem zfw_lt (n : Nat) : zfw n < 128 := Nat.mod_lt _ (by omega)
theorem zfw_is (n : Nat) : (n + 1 + zfw n) % 128 = 112 := by unfold zfw; omega
theorem zfw_no (n k : Nat) (h : k < zfw n) : (n + 1 + k) % 128 ≠ 112 := by unfold zfw at h; omega
/-- What is put behind n bytes of a sum over N bytes. -/
def pdw (n : Nat) (N : Int) : List Int := 128 :: (List.replicate (zfw n) 0 ++ hbk (8 * N) 16 16)
theorem pdw_len (n : Nat) (N : Int) : (pdw n N).length = zfw n + 17 := by simp [pdw, hbk_len]
theorem pdw_byte (n : Nat) (N : Int) : ∀ x ∈ pdw n N, 0 ≤ x ∧ x < 256 := by
  intro x hx
  simp only [pdw, List.mem_cons, List.mem_append, List.mem_replicate] at hx
  rcases hx with rfl | ⟨_, rfl⟩ | h
  · omega
  · omega
  · exact hbk_byte _ _ _ x h

set_option maxHeartbeats 1000000 in
theorem paddedCw (a : Option Addr) (n c : Nat) (ts : List Int) (N : Int) (w : World) (hT : Bs w a n c ts) (h0 : 0 ≤ N) (h1 : N ≤ 20000) (hn : n ≤ 20000) :
    Calls Tryd.prog 97 #[.slice a n c, .int .i64 N] w fun e w' => ∃ v, e = .returned v ∧ w'.ownsRow w.heap.size 5 1 v (n + (zfw n + 17)) (U8 (ts ++ pdw n N)) ∧ Below w.heap.size w w' := by
  have hzl := zfw_lt n
  have hzn := zfw_is n
  have HZ : Hid _ := zfw_no n
  obtain ⟨z, hz⟩ : ∃ z, z = zfw n := ⟨_, rfl⟩
  rw [← hz] at hzl hzn HZ
  have HZN : Hid _ := hz
  clear hz
  go_enter Tryd.func97, Tryd.ntmps97
  go_wp2_with (go_at_call 98; refine (wordBytesw _).mono ?_; rintro e w' ⟨rfl, hw'⟩; rw [hw']; clear hw' w')
  refine (cloneB a n c ts _ hT (by omega)).mono ?_
  rintro e w1 ⟨v1, rfl, ho1, hb1⟩
  go_wp2_with (at_builtin; refine wpl_append_bs rfl _ _ rfl w.heap.size _ n ts rfl (some ⟨w1.heap.size, 0, none⟩) 1 1 [128] rfl (ho1.alloc _) ?_ ?_ ?_ ?_)
  · exact Bs.one _ _ (by omega) (by omega)
  · omega
  · have := hb1.size; first | omega | (simp; omega)
  intro v2 w2 ho2 hg2 _
  have hb2 := below_app hb1 hb1.size ho1 hg2
  clear ho1 hg2 hb1
  go_wp2
  have hby : ∀ k, ∀ x ∈ ts ++ 128 :: List.replicate k (0 : Int), 0 ≤ x ∧ x < 256 := by
    intro k x hx
    simp only [List.mem_append, List.mem_cons, List.mem_replicate] at hx
    rcases hx with h | rfl | ⟨_, rfl⟩
    · exact hT.2.2.2.1 x h
    · omega
    · omega
  have HBY : Hid _ := hby
  clear hby
  go_loopw [7] (fun v wr => ∃ k m : Nat, m = n + 1 + k ∧ k ≤ z ∧ wr.ownsRow w.heap.size 5 1 v m (U8 (ts ++ 128 :: List.replicate k 0)) ∧ Below w.heap.size w wr) (fun v _ => match v with | .slice _ m _ => n + 1 + z - m | _ => 0)
  case atStart => exact ⟨0, n + 1, rfl, by omega, by simpa using ho2, hb2⟩
  case round =>
    clear ho2 hb2
    obtain ⟨k, m, hm, hk, ho, hb⟩ := hrel
    obtain ⟨a3, c3, rfl, _, _⟩ := Bs.own ho (HBY.out k)
    have hsz := hb.size
    have HM : Hid _ := hm
    by_cases hkz : k < z
    · have hne := HZ.out k hkz
      have hr : ¬ ((m : Int) % 128 = 112) := by rw [hm]; omega
      clear hne
      have hm128 : m ≤ 30000 := by omega
      clear hm
      go_wp2_with (at_builtin; refine wpl_append_bs rfl _ _ rfl w.heap.size _ m (ts ++ 128 :: List.replicate k 0) rfl (some ⟨wr.heap.size, 0, none⟩) 1 1 [0] rfl (ho.alloc _) ?_ ?_ ?_ ?_)
      · exact Bs.one _ _ (by omega) (by omega)
      · omega
      · first | omega | (simp; omega)
      intro v' w' h1 h2 _
      have hb2 := below_app hb (by omega) ho h2
      have HR : Hid (w'.ownsRow w.heap.size 5 1 v' (m + 1) (U8 (ts ++ 128 :: List.replicate (k + 1) 0))) := by
        unfold Hid
        rw [List.replicate_succ']; simpa using h1
      clear h1 h2 ho hb
      go_wp2
      go_roundw
      case rel => exact ⟨k + 1, m + 1, by have := HM.out; omega, by omega, HR.out, hb2⟩
      case measure =>
        obtain ⟨a4, c4, rfl, _, _⟩ := Bs.own HR.out (HBY.out (k + 1))
        have := HM.out
        simp
        omega
    · obtain rfl : k = z := by omega
      have hr : (m : Int) % 128 = 112 := by rw [hm]; omega
      have hm128 : m ≤ 30000 := by omega
      clear hm
      have hN8 : IntKind.i64.wrap (8 * N) = 8 * N := by rw [IntKind.wrap_i64]; omega
      have hN9 : IntKind.u64.wrap (8 * N) = 8 * N := by simp [IntKind.wrap, IntKind.signed, IntKind.bits]; omega
      have hH := highFirst w.heap.size m _ (ts ++ 128 :: List.replicate k 0) (8 * N) 16 wr ho hsz (by omega) (by omega) (by omega) (by omega)
      have hlen : n + (zfw n + 17) = m + 16 := by rw [← HZN.out]; have := HM.out; omega
      have HL : Hid _ := hlen
      have hpad : (ts ++ 128 :: List.replicate k 0) ++ hbk (8 * N) 16 16 = ts ++ pdw n N := by unfold pdw; rw [← HZN.out]; simp
      have HP : Hid _ := hpad
      clear hlen hpad
      go_wp2_with fail
      refine hH.mono ?_
      rintro e w3 ⟨v3, rfl, ho3, hb3⟩
      go_wp2
      go_ret
      refine ⟨_, rfl, ?_, hb.trans hb3⟩
      rw [HL.out, ← HP.out]
      exact ho3
end Go.Proofs.YtgapfkiceolceaaDoor

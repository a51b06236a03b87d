/-
  What is proved here: contracts of the specification's PutNum and NumLen and of the program's splitNum and NumLen, for every number, and every slice of at most 2^21 bytes.
-/
import Derived.Test.YtofflhhlacdgfaaDoorJM1
import Derived.Test.YtofflhhlacdgfaaDoorA1Math
namespace Go.Proofs.YtofflhhlacdgfaaDoor
open Go.RowKit
set_option maxRecDepth 100000
open Ma

set_option maxHeartbeats 400000 in
theorem specPut (a : Option Addr) (n cap : Nat) (xs : List Int) (N : Int) (w : World) (h : Bs w a n cap xs) (hn : n ≤ 2097152) :
    Calls Tryd.prog 110 #[.slice a n cap, .int .i64 N] w fun e w' => ∃ v, e = .returned v ∧ w'.ownsRow w.heap.size 5 1 v (n + (numB N).length) (U8 (xs ++ numB N)) ∧ Below w.heap.size w w' := by
  obtain ⟨i0, hi, hz0, hz1, hz2⟩ := info_parts Tryd.info5
  go_enter Tryd.func110, Tryd.ntmps110
  have hB : Bs (w.alloc (Obj.cells #[] 5)) a n cap xs := h.below ((Below.refl _ _).alloc (Nat.le_refl _) _)
  have hl : xs.length = n := h.2.1
  clear h
  go_wp2_with (at_builtin; refine wpl_append_bs rfl _ _ rfl w.heap.size _ 0 [] rfl a n cap xs rfl ?_ ?_ ?_ ?_ ?_)
  · exact World.ownsRow_made w #[] 0 (Nat.le_refl _) (by unfold maxLen; omega) rfl
  · exact hB
  · omega
  · simp
  intro v1 w1 hown1 hgrow1 _
  have hbel1 : Below w.heap.size w w1 := ((Below.refl _ _).alloc (Nat.le_refl _) _).grown hgrow1 (by simp) (by intro k hk; simp [Value.ownBlock] at hk; omega)
  clear hgrow1 hB
  by_cases c1 : N < 0
  · go_wp2
    go_ret
    exact ⟨_, rfl, by simpa [numB_no N (.inl c1)] using hown1, hbel1⟩
  by_cases c2 : 2147483647 < N
  · go_wp2
    go_ret
    exact ⟨_, rfl, by simpa [numB_no N (.inr c2)] using hown1, hbel1⟩
  go_wp2
  go_loopw [1, 5] (fun m v wr => ∃ (M : Int) (acc : List Int), m = .int .i64 M ∧ 0 ≤ M ∧ M ≤ 2147483647 ∧ acc ++ numB M = numB N ∧ wr.ownsRow w.heap.size 5 1 v (n + acc.length) (U8 (xs ++ acc)) ∧ Below w.heap.size w wr) (fun m _ _ => (intOf m).toNat)
  case atStart => exact ⟨N, [], rfl, by omega, by omega, rfl, by simpa using hown1, hbel1⟩
  case round =>
    obtain ⟨M, acc, rfl, hM0, hM1, hacc, hown, hb⟩ := hrel
    clear hown1 hbel1
    have hal : acc.length ≤ 5 := by
      have h1 := numB_len N
      rw [← hacc] at h1
      simp at h1
      omega
    have HA : Hid (acc ++ numB M = numB N) := hacc
    clear hacc
    have hsz := hb.size
    by_cases hlt : 127 < M
    · have hcv : IntKind.u8.wrap (M % 128 + 128) = M % 128 + 128 := by simp [IntKind.wrap, IntKind.signed, IntKind.bits]; omega
      go_wp2_with (at_builtin; refine wpl_append_bs rfl _ _ rfl w.heap.size _ (n + acc.length) (xs ++ acc) rfl (some ⟨wr.heap.size, 0, none⟩) 1 1 [M % 128 + 128] rfl (hown.alloc _) ?_ ?_ ?_ ?_)
      · exact Bs.one _ _ (by omega) (by omega)
      · omega
      · first | omega | (simp; omega)
      intro v' w' h1 h2 _
      have hb2 := below_app hb (by omega) hown h2
      have HR : Hid (w'.ownsRow w.heap.size 5 1 v' (n + (acc ++ [M % 128 + 128]).length) (U8 (xs ++ (acc ++ [M % 128 + 128])))) := by
        unfold Hid
        have e : n + (acc ++ [M % 128 + 128]).length = n + acc.length + 1 := by simp; omega
        rw [e]; simpa using h1
      clear h1 h2 hown hb
      go_wp2
      go_roundw
      case rel => exact ⟨M / 128, acc ++ [M % 128 + 128], rfl, by omega, by omega, by rw [List.append_assoc, List.singleton_append, ← numB_step M (by omega) hM1]; exact HA.out, HR.out, hb2⟩
      case measure => simp [intOf]; omega
    · have hcv : IntKind.u8.wrap M = M := by simp [IntKind.wrap, IntKind.signed, IntKind.bits]; omega
      go_wp2_with (at_builtin; refine wpl_append_bs rfl _ _ rfl w.heap.size _ (n + acc.length) (xs ++ acc) rfl (some ⟨wr.heap.size, 0, none⟩) 1 1 [M] rfl (hown.alloc _) ?_ ?_ ?_ ?_)
      · exact Bs.one _ _ (by omega) (by omega)
      · omega
      · first | omega | (simp; omega)
      intro v' w' h1 h2 _
      have hb2 := below_app hb (by omega) hown h2
      have HR : Hid (w'.ownsRow w.heap.size 5 1 v' (n + (numB N).length) (U8 (xs ++ numB N))) := by
        unfold Hid
        have e : acc ++ [M] = numB N := by rw [← numB_one M hM0 (by omega)]; exact HA.out
        have e2 : n + (numB N).length = n + acc.length + 1 := by rw [← e]; simp; omega
        rw [e2, ← e]; simpa using h1
      clear h1 h2 hown hb
      go_wp2
      go_ret
      exact ⟨_, rfl, HR.out, hb2⟩

/-- The five cells of the array. -/
def pad (N : Int) : List Int := numB N ++ List.replicate (5 - (numB N).length) 0

theorem below2 (w : World) (o o' : Obj) : Below w.heap.size w ((w.alloc o).alloc o') := ((Below.refl _ _).alloc (Nat.le_refl _) o).alloc (by simp) o'

theorem split_no (N : Int) (w : World) (h : N < 0 ∨ 2147483647 < N) :
    Calls Tryd.prog 125 #[.int .i64 N] w fun e w' => e = .returned (.tuple #[.agg (U8 (pad N)).toArray, .int .i64 (numB N).length]) ∧ Below w.heap.size w w' := by
  have hp : (U8 (pad N)).toArray = #[.int .u8 0, .int .u8 0, .int .u8 0, .int .u8 0, .int .u8 0] := by simp [pad, numB_no N h, List.replicate]
  have hq : (((numB N).length : Nat) : Int) = 0 := by simp [numB_no N h]
  rw [hp, hq]
  clear hp hq
  rcases h with h | h
  · go_enter Tryd.func125, Tryd.ntmps125
    go_wp2
    refine bodyPost_ret (v := .tuple #[.agg #[.int .u8 0, .int .u8 0, .int .u8 0, .int .u8 0, .int .u8 0], .int .i64 0]) (by simp [results, Tryd.results125, go_sem]) rfl ⟨rfl, ?_⟩
    exact below2 _ _ _
  · have h' : ¬ N < 0 := by omega
    go_enter Tryd.func125, Tryd.ntmps125
    go_wp2
    refine bodyPost_ret (v := .tuple #[.agg #[.int .u8 0, .int .u8 0, .int .u8 0, .int .u8 0, .int .u8 0], .int .i64 0]) (by simp [results, Tryd.results125, go_sem]) rfl ⟨rfl, ?_⟩
    exact below2 _ _ _

set_option maxHeartbeats 400000 in
theorem split_1 (N : Int) (w : World) (h0 : 0 ≤ N) (h1 : N < 128) :
    Calls Tryd.prog 125 #[.int .i64 N] w fun e w' => e = .returned (.tuple #[.agg #[.int .u8 (N), .int .u8 0, .int .u8 0, .int .u8 0, .int .u8 0], .int .i64 1]) ∧ Below w.heap.size w w' := by
  have hcv0 : IntKind.u8.wrap (N) = N := by simp [IntKind.wrap, IntKind.signed, IntKind.bits]; omega
  go_enter Tryd.func125, Tryd.ntmps125
  go_wp2
  refine wp_loop_rounds 1 ?_
  rw [rounds_succ]
  go_wp2
  refine bodyPost_ret (v := .tuple #[.agg #[.int .u8 (N), .int .u8 0, .int .u8 0, .int .u8 0, .int .u8 0], .int .i64 1]) (by simp [results, Tryd.results125, go_sem]) rfl ⟨rfl, ?_⟩
  exact below2 _ _ _

set_option maxHeartbeats 400000 in
theorem split_2 (N : Int) (w : World) (h0 : 128 ≤ N) (h1 : N < 16384) :
    Calls Tryd.prog 125 #[.int .i64 N] w fun e w' => e = .returned (.tuple #[.agg #[.int .u8 ((N) % 128 + 128), .int .u8 (N / 128), .int .u8 0, .int .u8 0, .int .u8 0], .int .i64 2]) ∧ Below w.heap.size w w' := by
  have hcv0 : IntKind.u8.wrap ((N) % 128 + 128) = (N) % 128 + 128 := by simp [IntKind.wrap, IntKind.signed, IntKind.bits]; omega
  have hcv1 : IntKind.u8.wrap (N / 128) = N / 128 := by simp [IntKind.wrap, IntKind.signed, IntKind.bits]; omega
  go_enter Tryd.func125, Tryd.ntmps125
  go_wp2
  refine wp_loop_rounds 2 ?_
  rw [rounds_succ]
  go_wp2
  rw [rounds_succ]
  go_wp2
  refine bodyPost_ret (v := .tuple #[.agg #[.int .u8 ((N) % 128 + 128), .int .u8 (N / 128), .int .u8 0, .int .u8 0, .int .u8 0], .int .i64 2]) (by simp [results, Tryd.results125, go_sem]) rfl ⟨rfl, ?_⟩
  exact below2 _ _ _

set_option maxHeartbeats 400000 in
theorem split_3 (N : Int) (w : World) (h0 : 16384 ≤ N) (h1 : N < 2097152) :
    Calls Tryd.prog 125 #[.int .i64 N] w fun e w' => e = .returned (.tuple #[.agg #[.int .u8 ((N) % 128 + 128), .int .u8 ((N / 128) % 128 + 128), .int .u8 (N / 128 / 128), .int .u8 0, .int .u8 0], .int .i64 3]) ∧ Below w.heap.size w w' := by
  have hcv0 : IntKind.u8.wrap ((N) % 128 + 128) = (N) % 128 + 128 := by simp [IntKind.wrap, IntKind.signed, IntKind.bits]; omega
  have hcv1 : IntKind.u8.wrap ((N / 128) % 128 + 128) = (N / 128) % 128 + 128 := by simp [IntKind.wrap, IntKind.signed, IntKind.bits]; omega
  have hcv2 : IntKind.u8.wrap (N / 128 / 128) = N / 128 / 128 := by simp [IntKind.wrap, IntKind.signed, IntKind.bits]; omega
  go_enter Tryd.func125, Tryd.ntmps125
  go_wp2
  refine wp_loop_rounds 3 ?_
  rw [rounds_succ]
  go_wp2
  rw [rounds_succ]
  go_wp2
  rw [rounds_succ]
  go_wp2
  refine bodyPost_ret (v := .tuple #[.agg #[.int .u8 ((N) % 128 + 128), .int .u8 ((N / 128) % 128 + 128), .int .u8 (N / 128 / 128), .int .u8 0, .int .u8 0], .int .i64 3]) (by simp [results, Tryd.results125, go_sem]) rfl ⟨rfl, ?_⟩
  exact below2 _ _ _

set_option maxHeartbeats 400000 in
theorem split_4 (N : Int) (w : World) (h0 : 2097152 ≤ N) (h1 : N < 268435456) :
    Calls Tryd.prog 125 #[.int .i64 N] w fun e w' => e = .returned (.tuple #[.agg #[.int .u8 ((N) % 128 + 128), .int .u8 ((N / 128) % 128 + 128), .int .u8 ((N / 128 / 128) % 128 + 128), .int .u8 (N / 128 / 128 / 128), .int .u8 0], .int .i64 4]) ∧ Below w.heap.size w w' := by
  have hcv0 : IntKind.u8.wrap ((N) % 128 + 128) = (N) % 128 + 128 := by simp [IntKind.wrap, IntKind.signed, IntKind.bits]; omega
  have hcv1 : IntKind.u8.wrap ((N / 128) % 128 + 128) = (N / 128) % 128 + 128 := by simp [IntKind.wrap, IntKind.signed, IntKind.bits]; omega
  have hcv2 : IntKind.u8.wrap ((N / 128 / 128) % 128 + 128) = (N / 128 / 128) % 128 + 128 := by simp [IntKind.wrap, IntKind.signed, IntKind.bits]; omega
  have hcv3 : IntKind.u8.wrap (N / 128 / 128 / 128) = N / 128 / 128 / 128 := by simp [IntKind.wrap, IntKind.signed, IntKind.bits]; omega
  go_enter Tryd.func125, Tryd.ntmps125
  go_wp2
  refine wp_loop_rounds 4 ?_
  rw [rounds_succ]
  go_wp2
  rw [rounds_succ]
  go_wp2
  rw [rounds_succ]
  go_wp2
  rw [rounds_succ]
  go_wp2
  refine bodyPost_ret (v := .tuple #[.agg #[.int .u8 ((N) % 128 + 128), .int .u8 ((N / 128) % 128 + 128), .int .u8 ((N / 128 / 128) % 128 + 128), .int .u8 (N / 128 / 128 / 128), .int .u8 0], .int .i64 4]) (by simp [results, Tryd.results125, go_sem]) rfl ⟨rfl, ?_⟩
  exact below2 _ _ _

set_option maxHeartbeats 400000 in
theorem split_5 (N : Int) (w : World) (h0 : 268435456 ≤ N) (h1 : N < 2147483648) :
    Calls Tryd.prog 125 #[.int .i64 N] w fun e w' => e = .returned (.tuple #[.agg #[.int .u8 ((N) % 128 + 128), .int .u8 ((N / 128) % 128 + 128), .int .u8 ((N / 128 / 128) % 128 + 128), .int .u8 ((N / 128 / 128 / 128) % 128 + 128), .int .u8 (N / 128 / 128 / 128 / 128)], .int .i64 5]) ∧ Below w.heap.size w w' := by
  have hcv0 : IntKind.u8.wrap ((N) % 128 + 128) = (N) % 128 + 128 := by simp [IntKind.wrap, IntKind.signed, IntKind.bits]; omega
  have hcv1 : IntKind.u8.wrap ((N / 128) % 128 + 128) = (N / 128) % 128 + 128 := by simp [IntKind.wrap, IntKind.signed, IntKind.bits]; omega
  have hcv2 : IntKind.u8.wrap ((N / 128 / 128) % 128 + 128) = (N / 128 / 128) % 128 + 128 := by simp [IntKind.wrap, IntKind.signed, IntKind.bits]; omega
  have hcv3 : IntKind.u8.wrap ((N / 128 / 128 / 128) % 128 + 128) = (N / 128 / 128 / 128) % 128 + 128 := by simp [IntKind.wrap, IntKind.signed, IntKind.bits]; omega
  have hcv4 : IntKind.u8.wrap (N / 128 / 128 / 128 / 128) = N / 128 / 128 / 128 / 128 := by simp [IntKind.wrap, IntKind.signed, IntKind.bits]; omega
  go_enter Tryd.func125, Tryd.ntmps125
  go_wp2
  refine wp_loop_rounds 5 ?_
  rw [rounds_succ]
  go_wp2
  rw [rounds_succ]
  go_wp2
  rw [rounds_succ]
  go_wp2
  rw [rounds_succ]
  go_wp2
  rw [rounds_succ]
  go_wp2
  refine bodyPost_ret (v := .tuple #[.agg #[.int .u8 ((N) % 128 + 128), .int .u8 ((N / 128) % 128 + 128), .int .u8 ((N / 128 / 128) % 128 + 128), .int .u8 ((N / 128 / 128 / 128) % 128 + 128), .int .u8 (N / 128 / 128 / 128 / 128)], .int .i64 5]) (by simp [results, Tryd.results125, go_sem]) rfl ⟨rfl, ?_⟩
  exact below2 _ _ _

theorem split_all (N : Int) (w : World) :
    Calls Tryd.prog 125 #[.int .i64 N] w fun e w' => e = .returned (.tuple #[.agg (U8 (pad N)).toArray, .int .i64 (numB N).length]) ∧ Below w.heap.size w w' := by
  by_cases h : N < 0 ∨ 2147483647 < N
  · exact split_no N w h
  have e2 : N / 128 / 128 = N / 16384 := by omega
  by_cases a1 : N < 128
  · have e : numB N = [N] := by unfold numB; rw [if_neg h, if_pos a1]
    refine (split_1 N w (by omega) a1).mono ?_
    rintro e' w' ⟨rfl, hb⟩
    exact ⟨by simp [pad, e, List.replicate], hb⟩
  by_cases a2 : N < 16384
  · have e : numB N = [N % 128 + 128, N / 128] := by unfold numB; rw [if_neg h, if_neg a1, if_pos a2]
    refine (split_2 N w (by omega) a2).mono ?_
    rintro e' w' ⟨rfl, hb⟩
    exact ⟨by simp [pad, e, List.replicate], hb⟩
  by_cases a3 : N < 2097152
  · have e : numB N = [N % 128 + 128, N / 128 % 128 + 128, N / 16384] := by unfold numB; rw [if_neg h, if_neg a1, if_neg a2, if_pos a3]
    refine (split_3 N w (by omega) a3).mono ?_
    rintro e' w' ⟨rfl, hb⟩
    exact ⟨by simp [pad, e, List.replicate, e2], hb⟩
  by_cases a4 : N < 268435456
  · have e : numB N = [N % 128 + 128, N / 128 % 128 + 128, N / 16384 % 128 + 128, N / 2097152] := by unfold numB; rw [if_neg h, if_neg a1, if_neg a2, if_neg a3, if_pos a4]
    refine (split_4 N w (by omega) a4).mono ?_
    rintro e' w' ⟨rfl, hb⟩
    exact ⟨by simp [pad, e]; omega, hb⟩
  · have e : numB N = [N % 128 + 128, N / 128 % 128 + 128, N / 16384 % 128 + 128, N / 2097152 % 128 + 128, N / 268435456] := by unfold numB; rw [if_neg h, if_neg a1, if_neg a2, if_neg a3, if_neg a4]
    refine (split_5 N w (by omega) (by omega)).mono ?_
    rintro e' w' ⟨rfl, hb⟩
    exact ⟨by simp [pad, e]; omega, hb⟩

theorem pad_len (N : Int) : (pad N).length = 5 := by have := numB_len N; simp [pad]; omega

theorem five (l : List Int) (h : l.length = 5) : ∃ x0 x1 x2 x3 x4, l = [x0, x1, x2, x3, x4] := by
  match l, h with
  | [x0, x1, x2, x3, x4], _ => exact ⟨x0, x1, x2, x3, x4, rfl⟩

end Go.Proofs.YtofflhhlacdgfaaDoor

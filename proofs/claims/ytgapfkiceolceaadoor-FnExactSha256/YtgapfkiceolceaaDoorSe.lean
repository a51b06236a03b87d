/-
  What is proved here: the contract of the specification's l2end, for every value that a Sha can have.
-/
import Derived.Test.YtgapfkiceolceaaDoorIe
import Derived.Test.YtgapfkiceolceaaDoorNb
import Derived.Test.YtgapfkiceolceaaDoorSa
import Derived.Test.YtgapfkiceolceaaDoorQ9
namespace Go.Proofs.YtgapfkiceolceaaDoor
set_option maxRecDepth 100000
open Go.RowKit

set_option maxHeartbeats 1000000 in
theorem specEnd (aH : Option Addr) (cH : Nat) (N : Int) (aT : Option Addr) (nT cT : Nat) (hs ts : List Int) (w : World) (hH : Is w aH 8 cH hs) (hwd : ∀ x ∈ hs, 0 ≤ x ∧ x < 4294967296) (hT : Bs w aT nT cT ts)
    (hN1 : 0 ≤ N) (hN2 : N ≤ 20000) (hnT : nT ≤ 1048576) :
    Calls Tryd.prog 82 #[shaV aH 8 cH N aT nT cT] w fun e w' => ∃ v, e = .returned v ∧ w'.ownsRow w.heap.size 5 1 v 32 (U8 (sumB (allB hs (ts ++ padB N)))) ∧ Below w.heap.size w w' := by
  have h8 := hH.2.1
  have HWD : Hid _ := hwd
  clear hwd
  have hzl := zn_lt N
  have hzn : (N + 1 + (zn N : Int)) % 64 = 56 := by unfold zn; omega
  have hz' : ∀ k, k < zn N → (N + 1 + (k : Int)) % 64 ≠ 56 := fun k hk => by unfold zn at hk; omega
  have HZ : Hid _ := hz'
  clear hz'
  obtain ⟨z, hz⟩ : ∃ z, z = zn N := ⟨_, rfl⟩
  rw [← hz] at hzl hzn HZ
  have HZN : Hid _ := hz
  clear hz
  obtain ⟨W, hW⟩ : ∃ W, W = w.alloc (.cells #[.slice aH 8 cH, .int .i64 N, .slice aT nT cT] 27) := ⟨_, rfl⟩
  have B0 : Below w.heap.size w W := by rw [hW]; exact (Below.refl _ _).alloc (Nat.le_refl _) _
  have A2 : Arr W w.heap.size 27 [.slice aH 8 cH, .int .i64 N, .slice aT nT cT] := by rw [hW]; exact Arr.new _ _ _
  have hWs : W.heap.size = w.heap.size + 1 := by rw [hW]; simp
  have hby : ∀ k, ∀ x ∈ (128 : Int) :: List.replicate k (0 : Int), 0 ≤ x ∧ x < 256 := by
    intro k x hx
    simp only [List.mem_cons, List.mem_replicate] at hx
    rcases hx with rfl | ⟨_, rfl⟩
    · omega
    · omega
  have HBY : Hid _ := hby
  have o1 : (W.alloc (.cells #[.int .u8 128] 5)).ownsRow W.heap.size 5 1 (.slice (some ⟨W.heap.size, 0, none⟩) 1 1) 1 (U8 [128]) := ⟨rfl, .inr ⟨W.heap.size, 1, #[.int .u8 128], rfl, Nat.le_refl _, heap_alloc_new _ _, Nat.le_refl _, by unfold maxLen; omega, rfl, rfl⟩⟩
  have b1 : Below W.heap.size W (W.alloc (.cells #[.int .u8 128] 5)) := (Below.refl _ _).alloc (Nat.le_refl _) _
  rw [hWs] at o1
  rw [hW] at o1 b1
  have HO1 : Hid _ := o1
  have HB1 : Hid _ := b1
  clear o1 b1 hby
  go_enter Tryd.func82, Tryd.ntmps82
  go_wp2
  go_loopw [3] (fun v wr => ∃ k m : Nat, m = 1 + k ∧ k ≤ z ∧ wr.ownsRow (w.heap.size + 1) 5 1 v m (U8 (128 :: List.replicate k 0)) ∧ Below W.heap.size W wr) (fun v _ => match v with | .slice _ m _ => 1 + z - m | _ => 0)
  case atStart => exact ⟨0, 1, rfl, by omega, HO1.out, hW ▸ HB1.out⟩
  case round =>
    clear HO1 HB1
    obtain ⟨k, m, hm, hk, ho, hb⟩ := hrel
    obtain ⟨a3, c3, rfl, _, _⟩ := Bs.own ho (HBY.out k)
    have hsz := hb.size
    have A3 := A2.kept hb
    have c1 := A3.cell 1
    simp at c1
    have HM : Hid _ := hm
    by_cases hkz : k < z
    · have hne := HZ.out k hkz
      have hr : ¬ ((N + (m : Int)) % 64 = 56) := by rw [hm]; omega
      clear hne
      have hm128 : m ≤ 200 := by omega
      clear hm A3
      go_wp2_with (at_builtin; refine wpl_append_bs rfl _ _ rfl (w.heap.size + 1) _ m (128 :: List.replicate k 0) rfl (some ⟨wr.heap.size, 0, none⟩) 1 1 [0] rfl (ho.alloc _) ?_ ?_ ?_ ?_)
      · exact Bs.one _ _ (by omega) (by omega)
      · omega
      · first | omega | (simp; omega)
      intro v' w' h1 h2 _
      have hb2 : Below W.heap.size W w' := below_app hb (by omega) (by rw [hWs]; exact ho) h2
      have HR : Hid (w'.ownsRow (w.heap.size + 1) 5 1 v' (m + 1) (U8 (128 :: List.replicate (k + 1) 0))) := by
        unfold Hid
        rw [List.replicate_succ']; simpa using h1
      clear h1 h2 ho hb c1
      go_wp2
      go_roundw
      case rel => exact ⟨k + 1, m + 1, by have := HM.out; omega, by omega, HR.out, hb2⟩
      case measure =>
        obtain ⟨a4, c4, rfl, _, _⟩ := Bs.own HR.out (HBY.out (k + 1))
        have := HM.out
        simp
        omega
    · obtain rfl : k = z := by omega
      have hr : (N + (m : Int)) % 64 = 56 := by rw [hm]; omega
      have hm128 : m ≤ 200 := by omega
      clear hm
      go_wp2
      clear hr
      go_loopw [3, 5] (fun v i wr => ∃ j q : Nat, q = m + j ∧ j ≤ 8 ∧ i = .int .i64 (7 - (j : Int)) ∧ wr.ownsRow (w.heap.size + 1) 5 1 v q (U8 (128 :: (List.replicate k 0 ++ lenB N j))) ∧ Below W.heap.size W wr) (fun _ i _ => (intOf i + 1).toNat)
      case atStart => exact ⟨0, m, rfl, by omega, rfl, by simpa [lenB] using ho, hb⟩
      case round =>
        clear ho hb A3 c1
        obtain ⟨j, q, hq, hj, rfl, ho, hb⟩ := hrel
        by_cases hj8 : j < 8
        · have hj0 : (0 : Int) ≤ 7 - (j : Int) := by omega
          have hj1 : IntKind.i64.wrap (8 * (7 - (j : Int))) = 56 - 8 * (j : Int) := by rw [IntKind.wrap_i64]; omega
          have hq210 : q ≤ 210 := by omega
          have HQ : Hid _ := hq
          have hsz' := hb.size
          have he : N * 8 / 2 ^ (56 - 8 * j) % 256 = lenAt N j := by unfold lenAt; rw [Int.mul_comm]
          have HE : Hid _ := he
          clear hq he
          go_wp2_with (at_builtin; refine wpl_append_bs rfl _ _ rfl (w.heap.size + 1) _ q (128 :: (List.replicate k 0 ++ lenB N j)) rfl (some ⟨wr.heap.size, 0, none⟩) 1 1 [lenAt N j] rfl (ho.alloc _) ?_ ?_ ?_ ?_)
          · have := Bs.one wr (N * 8 / 2 ^ (56 - 8 * j) % 256) (by omega) (by omega)
            rw [← HE.out]
            exact this
          · omega
          · first | omega | (simp; omega)
          intro v' w' h1 h2 _
          have hb2 : Below W.heap.size W w' := below_app hb (by omega) (by rw [hWs]; exact ho) h2
          have HR : Hid (w'.ownsRow (w.heap.size + 1) 5 1 v' (q + 1) (U8 (128 :: (List.replicate k 0 ++ lenB N (j + 1))))) := by
            unfold Hid
            rw [lenB_succ]; simpa using h1
          clear h1 h2 ho hb
          go_wp2
          go_roundw
          case rel => exact ⟨j + 1, q + 1, by have := HQ.out; omega, by omega, by go_num, HR.out, hb2⟩
          case measure => simp [intOf]; omega
        · obtain rfl : j = 8 := by omega
          have hj0 : ¬ ((0 : Int) ≤ 7 - ((8 : Nat) : Int)) := by omega
          have hpad : 128 :: (List.replicate k 0 ++ lenB N 8) = padB N := by unfold padB; rw [← HZN.out]
          rw [hpad] at ho
          clear hpad
          have hq210 : q ≤ 210 := by omega
          obtain ⟨a5, c5, rfl, _, hx5⟩ := Bs.own ho (padB_byte N)
          have A5 := A2.kept hb
          have B5 := B0.trans (hb.mono B0.size)
          have c5' : wr.cell? ⟨w.heap.size, 0, none⟩ = some (.slice aH 8 cH) ∧ wr.cell? ⟨w.heap.size, 1, none⟩ = some (.int .i64 N) ∧ wr.cell? ⟨w.heap.size, 2, none⟩ = some (.slice aT nT cT) := ⟨A5.cell 0, A5.cell 1, A5.cell 2⟩
          clear hq ho hb A5
          go_wp2_with fail
          refine (specAdd aH cH N aT nT cT hs ts a5 q c5 (padB N) _ (hH.below B5) HWD.out (hT.below B5) hx5 hN1 hN2 hnT (by omega)).mono ?_
          rintro e w6 ⟨v6, rfl, s6, b6⟩
          obtain ⟨a7, d7, a8, d8, rfl, o6⟩ := s6
          have hAL : (allB hs (ts ++ padB N)).length = 8 := fld_len h8 _ _
          have HAW : Hid (∀ x ∈ allB hs (ts ++ padB N), 0 ≤ x ∧ x < 4294967296) := fld_word HWD.out _ _
          have B6 := B5.trans (b6.mono B5.size)
          rw [hAL] at o6 ⊢
          obtain ⟨A, hAe⟩ : ∃ A, A = allB hs (ts ++ padB N) := ⟨_, rfl⟩
          rw [← hAe] at o6 hAL HAW
          have HAE : Hid _ := hAe
          clear hAe
          generalize (restB (ts ++ padB N)).length = rl at o6 ⊢
          generalize N + ((padB N).length : Int) = M at ⊢
          have hsz6 := B6.size
          have IA := (is_of_own o6.oh (words_int HAW.out)).below ((Below.refl _ _).alloc (Nat.le_refl _) (.cells #[.slice a7 8 d7, .int .i64 M, .slice a8 rl d8] 27))
          have B7 : Below w.heap.size w (w6.alloc (.cells #[.slice a7 8 d7, .int .i64 M, .slice a8 rl d8] 27)) := B6.alloc hsz6 _
          have A7 : Arr (w6.alloc (.cells #[.slice a7 8 d7, .int .i64 M, .slice a8 rl d8] 27)) w6.heap.size 27 [.slice a7 8 d7, .int .i64 M, .slice a8 rl d8] := Arr.new _ _ _
          clear o6 b6 B5 B6 c5' hx5
          obtain ⟨W7, hW7⟩ : ∃ W7, W7 = w6.alloc (.cells #[.slice a7 8 d7, .int .i64 M, .slice a8 rl d8] 27) := ⟨_, rfl⟩
          rw [← hW7] at IA B7 A7
          go_wp2
          rw [← hW7]
          clear hW7
          have hszW := B7.size
          go_loopw [7, 8] (fun v i wr => ∃ k m : Nat, m = 4 * k ∧ k ≤ 8 ∧ i = .int .i64 k ∧ wr.ownsRow W7.heap.size 5 1 v m (U8 (sumB (A.take k))) ∧ Below W7.heap.size W7 wr) (fun _ i _ => 8 - (intOf i).toNat)
          case atStart => exact ⟨0, 0, rfl, by omega, rfl, by simpa [sumB] using World.ownsRow_nil _ _ _ _, Below.refl _ _⟩
          case round =>
            obtain ⟨k, m, hm, hk, rfl, hown, hb⟩ := hrel
            by_cases hlt : k < 8
            · obtain ⟨x, hx⟩ : ∃ x, x = A.getD k 0 := ⟨_, rfl⟩
              have IA' := IA.below hb
              obtain ⟨b, o, rfl, hck⟩ : ∃ b o, a7 = some ⟨b, o, none⟩ ∧ wr.cell? ⟨b, o + k, none⟩ = some (.int .i64 (A.getD k 0)) := by
                rcases IA'.2.2.2.2 with h | ⟨b, o, h, _, hc⟩
                · omega
                · exact ⟨b, o, h, hc k hlt⟩
              rw [← hx] at hck
              obtain ⟨hx0, hx1⟩ : 0 ≤ x ∧ x < 4294967296 := by rw [hx]; exact HAW.out _ (getD_mem (by omega))
              have hsn := take_snoc A k (by omega)
              rw [← hx] at hsn
              have HN : Hid _ := sumB_snoc hsn
              have HM : Hid _ := hm
              have c0 := (A7.kept hb).cell 0
              simp at c0
              have hk8 : (k : Int) < 8 := by omega
              have hm28 : m ≤ 28 := by have := HM.out; omega
              have hsz := hb.size
              clear hx hsn hm IA'
              go_wp2_with (at_builtin; refine wpl_append_bs rfl _ _ rfl W7.heap.size _ m (sumB (A.take k)) rfl (some ⟨wr.heap.size, 0, none⟩) 4 4 (b4 x) rfl (hown.alloc _) ?_ ?_ ?_ ?_)
              · have := Bs.four wr (x / 16777216 % 256) (x / 65536 % 256) (x / 256 % 256) (x % 256) (b4_byte x)
                first
                  | exact this
                  | (have e : x / 16777216 % 256 = x / 16777216 := by omega
                     rw [e] at this
                     simpa [b4, e] using this)
              · omega
              · first | omega | (simp; omega)
              intro v' w' h1 h2 _
              have hb2 := below_app hb (by omega) hown h2
              have HR : Hid (w'.ownsRow W7.heap.size 5 1 v' (m + 4) (U8 (sumB (A.take (k + 1))))) := by
                unfold Hid
                rw [HN.out]; simpa using h1
              clear h1 h2 hown hb HN c0 hck
              go_wp2
              go_roundw
              case rel => exact ⟨k + 1, m + 4, by have := HM.out; omega, by omega, by go_num, HR.out, hb2⟩
              case measure => simp [intOf]; omega
            · obtain rfl : k = 8 := by omega
              obtain rfl : m = 32 := hm
              rw [List.take_of_length_le (show A.length ≤ 8 by omega)] at hown
              have fr := B7.trans (hb.mono B7.size)
              have ho' := own_base hown hszW
              rw [show A = allB hs (ts ++ padB N) from HAE.out] at ho'
              go_wp2
              go_ret
              exact ⟨_, rfl, ho', fr⟩
end Go.Proofs.YtgapfkiceolceaaDoor

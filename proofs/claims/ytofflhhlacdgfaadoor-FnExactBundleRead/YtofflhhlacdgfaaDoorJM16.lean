/-
  What is proved here: the contract of the specification's l2end, for every value that a Sha can have; the contract of the specification's ShaEnd, for every value of at most 2^20 elements a slice; contracts of both ShaNews; where the program's table of first words holds what its text lays into it; contracts of both Sha256s and of the specification's l2sum, for every slice of at most 2^20 bytes. Where the program's three tables hold what its text lays into them; contracts of two helpers of the exact laws on a Sha (mark it, look whether the marks are held), for every value whose slices hold at most 2^21 elements each; a Sha that lies in a cell of its own, its two rows behind an earlier point of memory, and how it is kept while other rows are marked; the contract of the program's Sha256, for every slice. Where the program's three tables hold what its text lays into them; the contract of the program's isIn; contracts of the program's isIn, isVersion, isKind, keyOk, compareKey, and of cmp.Compare at int.
-/
import Derived.Test.YtofflhhlacdgfaaDoorJM12
import Derived.Test.YtofflhhlacdgfaaDoorJM13
import Derived.Test.YtofflhhlacdgfaaDoorSa
import Derived.Test.YtofflhhlacdgfaaDoorJM14
import Derived.Test.YtofflhhlacdgfaaDoorJM5
import Derived.Test.YtofflhhlacdgfaaDoorJM1
import Derived.Test.YtofflhhlacdgfaaDoorBg
namespace Go.Proofs.YtofflhhlacdgfaaDoor
set_option maxRecDepth 100000
open Go.RowKit

set_option maxHeartbeats 1000000 in
theorem specEnd (aH : Option Addr) (cH : Nat) (N : Int) (aT : Option Addr) (nT cT : Nat) (hs ts : List Int) (w : World) (hH : Is w aH 8 cH hs) (hwd : ∀ x ∈ hs, 0 ≤ x ∧ x < 4294967296) (hT : Bs w aT nT cT ts)
    (hN1 : 0 ≤ N) (hN2 : N ≤ 20000) (hnT : nT ≤ 1048576) :
    Calls Tryd.prog 122 #[shaV aH 8 cH N aT nT cT] w fun e w' => ∃ v, e = .returned v ∧ w'.ownsRow w.heap.size 5 1 v 32 (U8 (sumB (allB hs (ts ++ padB N)))) ∧ Below w.heap.size w w' := by
  have h8 := hH.2.1
  have HWD : Hid _ := hwd
  clear hwd
  have hzl := zn_lt N
  have hzn : (N + 1 + (zn N : Int)) % 64 = 56 := by unfold zn; omega
  have hz' : ∀ k, k < zn N → (N + 1 + (k : Int)) % 64 ≠ 56 := fun k hk => by unfold zn at hk; omega
  have HZ : Hid _ := hz'
  clear hz'
  obtain ⟨z, hz⟩ : ∃ z, z = zn N := ⟨_, rfl⟩
  rw [← hz] at hzl hzn HZ
  have HZN : Hid _ := hz
  clear hz
  obtain ⟨W, hW⟩ : ∃ W, W = w.alloc (.cells #[.slice aH 8 cH, .int .i64 N, .slice aT nT cT] 95) := ⟨_, rfl⟩
  have B0 : Below w.heap.size w W := by rw [hW]; exact (Below.refl _ _).alloc (Nat.le_refl _) _
  have A2 : Arr W w.heap.size 95 [.slice aH 8 cH, .int .i64 N, .slice aT nT cT] := by rw [hW]; exact Arr.new _ _ _
  have hWs : W.heap.size = w.heap.size + 1 := by rw [hW]; simp
  have hby : ∀ k, ∀ x ∈ (128 : Int) :: List.replicate k (0 : Int), 0 ≤ x ∧ x < 256 := by
    intro k x hx
    simp only [List.mem_cons, List.mem_replicate] at hx
    rcases hx with rfl | ⟨_, rfl⟩
    · omega
    · omega
  have HBY : Hid _ := hby
  have o1 : (W.alloc (.cells #[.int .u8 128] 5)).ownsRow W.heap.size 5 1 (.slice (some ⟨W.heap.size, 0, none⟩) 1 1) 1 (U8 [128]) := ⟨rfl, .inr ⟨W.heap.size, 1, #[.int .u8 128], rfl, Nat.le_refl _, heap_alloc_new _ _, Nat.le_refl _, by unfold maxLen; omega, rfl, rfl⟩⟩
  have b1 : Below W.heap.size W (W.alloc (.cells #[.int .u8 128] 5)) := (Below.refl _ _).alloc (Nat.le_refl _) _
  rw [hWs] at o1
  rw [hW] at o1 b1
  have HO1 : Hid _ := o1
  have HB1 : Hid _ := b1
  clear o1 b1 hby
  go_enter Tryd.func122, Tryd.ntmps122
  go_wp2
  go_loopw [3] (fun v wr => ∃ k m : Nat, m = 1 + k ∧ k ≤ z ∧ wr.ownsRow (w.heap.size + 1) 5 1 v m (U8 (128 :: List.replicate k 0)) ∧ Below W.heap.size W wr) (fun v _ => match v with | .slice _ m _ => 1 + z - m | _ => 0)
  case atStart => exact ⟨0, 1, rfl, by omega, HO1.out, hW ▸ HB1.out⟩
  case round =>
    clear HO1 HB1
    obtain ⟨k, m, hm, hk, ho, hb⟩ := hrel
    obtain ⟨a3, c3, rfl, _, _⟩ := Bs.own ho (HBY.out k)
    have hsz := hb.size
    have A3 := A2.kept hb
    have c1 := A3.cell 1
    simp at c1
    have HM : Hid _ := hm
    by_cases hkz : k < z
    · have hne := HZ.out k hkz
      have hr : ¬ ((N + (m : Int)) % 64 = 56) := by rw [hm]; omega
      clear hne
      have hm128 : m ≤ 200 := by omega
      clear hm A3
      go_wp2_with (at_builtin; refine wpl_append_bs rfl _ _ rfl (w.heap.size + 1) _ m (128 :: List.replicate k 0) rfl (some ⟨wr.heap.size, 0, none⟩) 1 1 [0] rfl (ho.alloc _) ?_ ?_ ?_ ?_)
      · exact Bs.one _ _ (by omega) (by omega)
      · omega
      · first | omega | (simp; omega)
      intro v' w' h1 h2 _
      have hb2 : Below W.heap.size W w' := below_app hb (by omega) (by rw [hWs]; exact ho) h2
      have HR : Hid (w'.ownsRow (w.heap.size + 1) 5 1 v' (m + 1) (U8 (128 :: List.replicate (k + 1) 0))) := by
        unfold Hid
        rw [List.replicate_succ']; simpa using h1
      clear h1 h2 ho hb c1
      go_wp2
      go_roundw
      case rel => exact ⟨k + 1, m + 1, by have := HM.out; omega, by omega, HR.out, hb2⟩
      case measure =>
        obtain ⟨a4, c4, rfl, _, _⟩ := Bs.own HR.out (HBY.out (k + 1))
        have := HM.out
        simp
        omega
    · obtain rfl : k = z := by omega
      have hr : (N + (m : Int)) % 64 = 56 := by rw [hm]; omega
      have hm128 : m ≤ 200 := by omega
      clear hm
      go_wp2
      clear hr
      go_loopw [3, 5] (fun v i wr => ∃ j q : Nat, q = m + j ∧ j ≤ 8 ∧ i = .int .i64 (7 - (j : Int)) ∧ wr.ownsRow (w.heap.size + 1) 5 1 v q (U8 (128 :: (List.replicate k 0 ++ lenB N j))) ∧ Below W.heap.size W wr) (fun _ i _ => (intOf i + 1).toNat)
      case atStart => exact ⟨0, m, rfl, by omega, rfl, by simpa [lenB] using ho, hb⟩
      case round =>
        clear ho hb A3 c1
        obtain ⟨j, q, hq, hj, rfl, ho, hb⟩ := hrel
        by_cases hj8 : j < 8
        · have hj0 : (0 : Int) ≤ 7 - (j : Int) := by omega
          have hj1 : IntKind.i64.wrap (8 * (7 - (j : Int))) = 56 - 8 * (j : Int) := by rw [IntKind.wrap_i64]; omega
          have hq210 : q ≤ 210 := by omega
          have HQ : Hid _ := hq
          have hsz' := hb.size
          have he : N * 8 / 2 ^ (56 - 8 * j) % 256 = lenAt N j := by unfold lenAt; rw [Int.mul_comm]
          have HE : Hid _ := he
          clear hq he
          go_wp2_with (at_builtin; refine wpl_append_bs rfl _ _ rfl (w.heap.size + 1) _ q (128 :: (List.replicate k 0 ++ lenB N j)) rfl (some ⟨wr.heap.size, 0, none⟩) 1 1 [lenAt N j] rfl (ho.alloc _) ?_ ?_ ?_ ?_)
          · have := Bs.one wr (N * 8 / 2 ^ (56 - 8 * j) % 256) (by omega) (by omega)
            rw [← HE.out]
            exact this
          · omega
          · first | omega | (simp; omega)
          intro v' w' h1 h2 _
          have hb2 : Below W.heap.size W w' := below_app hb (by omega) (by rw [hWs]; exact ho) h2
          have HR : Hid (w'.ownsRow (w.heap.size + 1) 5 1 v' (q + 1) (U8 (128 :: (List.replicate k 0 ++ lenB N (j + 1))))) := by
            unfold Hid
            rw [lenB_succ]; simpa using h1
          clear h1 h2 ho hb
          go_wp2
          go_roundw
          case rel => exact ⟨j + 1, q + 1, by have := HQ.out; omega, by omega, by go_num, HR.out, hb2⟩
          case measure => simp [intOf]; omega
        · obtain rfl : j = 8 := by omega
          have hj0 : ¬ ((0 : Int) ≤ 7 - ((8 : Nat) : Int)) := by omega
          have hpad : 128 :: (List.replicate k 0 ++ lenB N 8) = padB N := by unfold padB; rw [← HZN.out]
          rw [hpad] at ho
          clear hpad
          have hq210 : q ≤ 210 := by omega
          obtain ⟨a5, c5, rfl, _, hx5⟩ := Bs.own ho (padB_byte N)
          have A5 := A2.kept hb
          have B5 := B0.trans (hb.mono B0.size)
          have c5' : wr.cell? ⟨w.heap.size, 0, none⟩ = some (.slice aH 8 cH) ∧ wr.cell? ⟨w.heap.size, 1, none⟩ = some (.int .i64 N) ∧ wr.cell? ⟨w.heap.size, 2, none⟩ = some (.slice aT nT cT) := ⟨A5.cell 0, A5.cell 1, A5.cell 2⟩
          clear hq ho hb A5
          go_wp2_with fail
          refine (specAdd aH cH N aT nT cT hs ts a5 q c5 (padB N) _ (hH.below B5) HWD.out (hT.below B5) hx5 hN1 hN2 hnT (by omega)).mono ?_
          rintro e w6 ⟨v6, rfl, s6, b6⟩
          obtain ⟨a7, d7, a8, d8, rfl, o6⟩ := s6
          have hAL : (allB hs (ts ++ padB N)).length = 8 := fld_len h8 _ _
          have HAW : Hid (∀ x ∈ allB hs (ts ++ padB N), 0 ≤ x ∧ x < 4294967296) := fld_word HWD.out _ _
          have B6 := B5.trans (b6.mono B5.size)
          rw [hAL] at o6 ⊢
          obtain ⟨A, hAe⟩ : ∃ A, A = allB hs (ts ++ padB N) := ⟨_, rfl⟩
          rw [← hAe] at o6 hAL HAW
          have HAE : Hid _ := hAe
          clear hAe
          generalize (restB (ts ++ padB N)).length = rl at o6 ⊢
          generalize N + ((padB N).length : Int) = M at ⊢
          have hsz6 := B6.size
          have IA := (is_of_own o6.oh (words_int HAW.out)).below ((Below.refl _ _).alloc (Nat.le_refl _) (.cells #[.slice a7 8 d7, .int .i64 M, .slice a8 rl d8] 95))
          have B7 : Below w.heap.size w (w6.alloc (.cells #[.slice a7 8 d7, .int .i64 M, .slice a8 rl d8] 95)) := B6.alloc hsz6 _
          have A7 : Arr (w6.alloc (.cells #[.slice a7 8 d7, .int .i64 M, .slice a8 rl d8] 95)) w6.heap.size 95 [.slice a7 8 d7, .int .i64 M, .slice a8 rl d8] := Arr.new _ _ _
          clear o6 b6 B5 B6 c5' hx5
          obtain ⟨W7, hW7⟩ : ∃ W7, W7 = w6.alloc (.cells #[.slice a7 8 d7, .int .i64 M, .slice a8 rl d8] 95) := ⟨_, rfl⟩
          rw [← hW7] at IA B7 A7
          go_wp2
          rw [← hW7]
          clear hW7
          have hszW := B7.size
          go_loopw [7, 8] (fun v i wr => ∃ k m : Nat, m = 4 * k ∧ k ≤ 8 ∧ i = .int .i64 k ∧ wr.ownsRow W7.heap.size 5 1 v m (U8 (sumB (A.take k))) ∧ Below W7.heap.size W7 wr) (fun _ i _ => 8 - (intOf i).toNat)
          case atStart => exact ⟨0, 0, rfl, by omega, rfl, by simpa [sumB] using World.ownsRow_nil _ _ _ _, Below.refl _ _⟩
          case round =>
            obtain ⟨k, m, hm, hk, rfl, hown, hb⟩ := hrel
            by_cases hlt : k < 8
            · obtain ⟨x, hx⟩ : ∃ x, x = A.getD k 0 := ⟨_, rfl⟩
              have IA' := IA.below hb
              obtain ⟨b, o, rfl, hck⟩ : ∃ b o, a7 = some ⟨b, o, none⟩ ∧ wr.cell? ⟨b, o + k, none⟩ = some (.int .i64 (A.getD k 0)) := by
                rcases IA'.2.2.2.2 with h | ⟨b, o, h, _, hc⟩
                · omega
                · exact ⟨b, o, h, hc k hlt⟩
              rw [← hx] at hck
              obtain ⟨hx0, hx1⟩ : 0 ≤ x ∧ x < 4294967296 := by rw [hx]; exact HAW.out _ (getD_mem (by omega))
              have hsn := take_snoc A k (by omega)
              rw [← hx] at hsn
              have HN : Hid _ := sumB_snoc hsn
              have HM : Hid _ := hm
              have c0 := (A7.kept hb).cell 0
              simp at c0
              have hk8 : (k : Int) < 8 := by omega
              have hm28 : m ≤ 28 := by have := HM.out; omega
              have hsz := hb.size
              clear hx hsn hm IA'
              go_wp2_with (at_builtin; refine wpl_append_bs rfl _ _ rfl W7.heap.size _ m (sumB (A.take k)) rfl (some ⟨wr.heap.size, 0, none⟩) 4 4 (b4 x) rfl (hown.alloc _) ?_ ?_ ?_ ?_)
              · have := Bs.four wr (x / 16777216 % 256) (x / 65536 % 256) (x / 256 % 256) (x % 256) (b4_byte x)
                first
                  | exact this
                  | (have e : x / 16777216 % 256 = x / 16777216 := by omega
                     rw [e] at this
                     simpa [b4, e] using this)
              · omega
              · first | omega | (simp; omega)
              intro v' w' h1 h2 _
              have hb2 := below_app hb (by omega) hown h2
              have HR : Hid (w'.ownsRow W7.heap.size 5 1 v' (m + 4) (U8 (sumB (A.take (k + 1))))) := by
                unfold Hid
                rw [HN.out]; simpa using h1
              clear h1 h2 hown hb HN c0 hck
              go_wp2
              go_roundw
              case rel => exact ⟨k + 1, m + 4, by have := HM.out; omega, by omega, by go_num, HR.out, hb2⟩
              case measure => simp [intOf]; omega
            · obtain rfl : k = 8 := by omega
              obtain rfl : m = 32 := hm
              rw [List.take_of_length_le (show A.length ≤ 8 by omega)] at hown
              have fr := B7.trans (hb.mono B7.size)
              have ho' := own_base hown hszW
              rw [show A = allB hs (ts ++ padB N) from HAE.out] at ho'
              go_wp2
              go_ret
              exact ⟨_, rfl, ho', fr⟩
end Go.Proofs.YtofflhhlacdgfaaDoor
namespace Go.Proofs.YtofflhhlacdgfaaDoor
set_option maxRecDepth 100000
open Go.RowKit

end Go.Proofs.YtofflhhlacdgfaaDoor
namespace Go.Proofs.YtofflhhlacdgfaaDoor
set_option maxRecDepth 100000
open Go.RowKit

theorem H0_words : ∀ x ∈ H0, 0 ≤ x ∧ x < 4294967296 := by decide

set_option maxHeartbeats 1000000 in
theorem specShaNew (w : World) :
    Calls Tryd.prog 124 #[] w fun e w' => ∃ aH cH, e = .returned (shaV aH 8 cH 0 none 0 0) ∧ w'.ownsRow w.heap.size 3 1 (.slice aH 8 cH) 8 (I64 H0) ∧ Below w.heap.size w w' := by
  have HA : Hid (Arr (w.alloc (.cells #[.slice none 0 0, .int .i64 0, .slice none 0 0] 95)) w.heap.size 95 [.slice none 0 0, .int .i64 0, .slice none 0 0]) := Arr.new _ _ _
  have HB : Hid (Below w.heap.size w (w.alloc (.cells #[.slice none 0 0, .int .i64 0, .slice none 0 0] 95))) := (Below.refl _ _).alloc (Nat.le_refl _) _
  go_enter Tryd.func124, Tryd.ntmps124
  go_wp2_with fail
  refine (specFirst _).mono ?_
  rintro e w1 ⟨rfl, hb1⟩
  have B1 := HB.out.trans (hb1.mono HB.out.size)
  have A1 := Arr.kept HA.out hb1
  have hgs := A1.lt
  clear hb1 HA HB
  go_wp2_with fail
  refine (specWords H0 _ rfl H0_words).mono ?_
  rintro e w2 ⟨v2, rfl, ho2, hb2⟩
  obtain ⟨aH, cH, rfl, _, _⟩ := Is.own ho2 (words_int H0_words)
  have B2 := B1.trans (hb2.mono B1.size)
  have A2 := A1.kept hb2
  have o3 := own_base (own_other (own_other (own_other ho2 ⟨w.heap.size, 0, none⟩ (.slice aH 8 cH) hgs) ⟨w.heap.size, 1, none⟩ (.int .i64 0) hgs) ⟨w.heap.size, 2, none⟩ (.slice none 0 0) hgs) B1.size
  have A3 := ((A2.set 0 (.slice aH 8 cH)).set 1 (.int .i64 0)).set 2 (.slice none 0 0)
  have B3 := ((B2.setCell (p := ⟨w.heap.size, 0, none⟩) (Nat.le_refl _) (.slice aH 8 cH)).setCell (p := ⟨w.heap.size, 1, none⟩) (Nat.le_refl _) (.int .i64 0)).setCell (p := ⟨w.heap.size, 2, none⟩) (Nat.le_refl _) (.slice none 0 0)
  have c0 := A2.cell 0
  have c1 := A2.cell 1
  have c2 := A2.cell 2
  have f2 := A2.frozen
  simp at c0 c1 c2
  have O3 : Hid _ := o3
  have HA3 : Hid _ := A3
  have HB3 : Hid _ := B3
  clear o3 A3 B3 ho2 hb2 B1 A1 A2 B2
  go_wp2
  exact bodyPost_ret (results_cell_row rfl _ _ w.heap.size 95 _ (0, 0) _ rfl HA3.out Tryd.underlying95 rfl (by kernel_rfl)) rfl ⟨aH, cH, rfl, O3.out, HB3.out⟩

set_option maxHeartbeats 1000000 in
theorem implShaNew (w : World) (hf : TabF w) :
    Calls Tryd.prog 81 #[] w fun e w' => ∃ aH cH, e = .returned (shaV aH 8 cH 0 none 0 0) ∧ w'.ownsRow w.heap.size 3 1 (.slice aH 8 cH) 8 (I64 H0) ∧ Below w.heap.size w w' := by
  obtain ⟨l0, l1, l2, l3, l4, l5, l6, l7, hH⟩ : ∃ l0 l1 l2 l3 l4 l5 l6 l7, H0 = [l0, l1, l2, l3, l4, l5, l6, l7] := ⟨_, _, _, _, _, _, _, _, rfl⟩
  have hwd := H0_words
  unfold TabF at hf
  rw [hH] at hf hwd
  rw [hH]
  clear hH
  obtain ⟨W, hW⟩ : ∃ W, W = (w.alloc (.cells #[.slice none 0 0, .int .i64 0, .slice none 0 0] 95)).alloc (.cells #[.int .u32 l0, .int .u32 l1, .int .u32 l2, .int .u32 l3, .int .u32 l4, .int .u32 l5, .int .u32 l6, .int .u32 l7] 134) := ⟨_, rfl⟩
  have A0 : Arr W w.heap.size 95 [.slice none 0 0, .int .i64 0, .slice none 0 0] := by rw [hW]; exact (Arr.new _ _ _).alloc _
  have B1 : Below w.heap.size w W := by rw [hW]; exact ((Below.refl _ _).alloc (Nat.le_refl _) _).alloc (by simp) _
  have c0 : w.cell? ⟨1, 0, none⟩ = some (.int .u32 l0) := hf.cell 0
  have c1 : w.cell? ⟨1, 1, none⟩ = some (.int .u32 l1) := hf.cell 1
  have c2 : w.cell? ⟨1, 2, none⟩ = some (.int .u32 l2) := hf.cell 2
  have c3 : w.cell? ⟨1, 3, none⟩ = some (.int .u32 l3) := hf.cell 3
  have c4 : w.cell? ⟨1, 4, none⟩ = some (.int .u32 l4) := hf.cell 4
  have c5 : w.cell? ⟨1, 5, none⟩ = some (.int .u32 l5) := hf.cell 5
  have c6 : w.cell? ⟨1, 6, none⟩ = some (.int .u32 l6) := hf.cell 6
  have c7 : w.cell? ⟨1, 7, none⟩ = some (.int .u32 l7) := hf.cell 7
  have hsz := hf.lt
  have hgs := A0.lt
  go_enter Tryd.func81, Tryd.ntmps81
  go_wp2_with fail
  rw [← hW]
  refine (numbersC8 l0 l1 l2 l3 l4 l5 l6 l7 _ hwd).mono ?_
  rintro e w2 ⟨v2, rfl, ho2, hb2⟩
  obtain ⟨aH, cH, rfl, _, _⟩ := Is.own ho2 (words_int hwd)
  have B2 := B1.trans (hb2.mono B1.size)
  have A2 := A0.kept hb2
  have o3 := own_base (own_other (own_other (own_other ho2 ⟨w.heap.size, 0, none⟩ (.slice aH 8 cH) hgs) ⟨w.heap.size, 1, none⟩ (.int .i64 0) hgs) ⟨w.heap.size, 2, none⟩ (.slice none 0 0) hgs) B1.size
  have A3 := ((A2.set 0 (.slice aH 8 cH)).set 1 (.int .i64 0)).set 2 (.slice none 0 0)
  have B3 := ((B2.setCell (p := ⟨w.heap.size, 0, none⟩) (Nat.le_refl _) (.slice aH 8 cH)).setCell (p := ⟨w.heap.size, 1, none⟩) (Nat.le_refl _) (.int .i64 0)).setCell (p := ⟨w.heap.size, 2, none⟩) (Nat.le_refl _) (.slice none 0 0)
  clear c0 c1 c2 c3 c4 c5 c6 c7
  have c0 := A2.cell 0
  have c1 := A2.cell 1
  have c2 := A2.cell 2
  have f2 := A2.frozen
  simp at c0 c1 c2
  have O3 : Hid _ := o3
  have HA3 : Hid _ := A3
  have HB3 : Hid _ := B3
  clear o3 A3 B3 ho2 hb2 B1 A0 A2 B2 hW
  go_wp2
  exact bodyPost_ret (results_cell_row rfl _ _ w.heap.size 95 _ (0, 0) _ rfl HA3.out Tryd.underlying95 rfl (by kernel_rfl)) rfl ⟨aH, cH, rfl, O3.out, HB3.out⟩
end Go.Proofs.YtofflhhlacdgfaaDoor
namespace Go.Proofs.YtofflhhlacdgfaaDoor
set_option maxRecDepth 100000
open Go.RowKit

theorem restB_len' (l : List Int) : (restB l).length = l.length % 64 := by unfold restB; simp; omega
/-- The sum of a message. -/
def sumOf (bs : List Int) : List Int := sumB (allB (allB H0 bs) (restB bs ++ padB bs.length))
theorem sumOf_len (bs : List Int) : (sumOf bs).length = 32 := by
  unfold sumOf
  rw [sumB_len, show (allB (allB H0 bs) (restB bs ++ padB bs.length)).length = 8 from fld_len (fld_len rfl _ _) _ _]
theorem sumOf_byte (bs : List Int) : ∀ y ∈ sumOf bs, 0 ≤ y ∧ y < 256 := sumB_byte _
/-- What Sha256 answers. -/
def s256 (bs : List Int) : List Int := if bs.length ≤ 20000 then sumOf bs else []
theorem s256_len (bs : List Int) : (s256 bs).length ≤ 32 := by unfold s256; split <;> simp [sumOf_len]
theorem s256_byte (bs : List Int) : ∀ y ∈ s256 bs, 0 ≤ y ∧ y < 256 := by
  unfold s256
  split
  · exact sumOf_byte bs
  · simp

theorem end_of_add {bs : List Int} (h : bs.length ≤ 20000) (hb : shaOk H0 0 [] = true) :
    addOk H0 0 [] bs = true ∧ shaOk (addH H0 0 [] bs) (addN H0 0 [] bs) (addT H0 0 [] bs) = true ∧ endOf (addH H0 0 [] bs) (addN H0 0 [] bs) (addT H0 0 [] bs) = sumOf bs := by
  have ho : addOk H0 0 [] bs = true := by unfold addOk; rw [hb]; simp; omega
  have eH : addH H0 0 [] bs = allB H0 bs := by unfold addH; rw [ho]; rfl
  have eN : addN H0 0 [] bs = (bs.length : Int) := by unfold addN; rw [ho]; simp
  have eT : addT H0 0 [] bs = restB bs := by unfold addT; rw [ho]; rfl
  rw [eH, eN, eT]
  have hk : shaOk (allB H0 bs) (bs.length : Int) (restB bs) = true := by
    unfold shaOk
    simp only [Bool.and_eq_true, decide_eq_true_eq]
    refine ⟨(isW_iff _).2 ⟨fld_len rfl _ _, fld_word H0_words _ _⟩, by omega, by omega, ?_⟩
    rw [restB_len']
    omega
  refine ⟨ho, hk, ?_⟩
  unfold endOf sumOf
  rw [hk]
  rfl

theorem bs_none (W : World) : Bs W none 0 0 [] := ⟨fun _ => rfl, rfl, Nat.le_refl _, by simp, .inl rfl⟩

theorem sum_of_parts {H bs : List Int} (hH : H = H0) : sumB (allB (allB H ([] ++ bs)) (restB ([] ++ bs) ++ padB bs.length)) = sumOf bs := by
  rw [hH, List.nil_append]
  unfold sumOf
  with_reducible rfl
theorem H0_len : H0.length = 8 := rfl

set_option maxHeartbeats 1000000 in
theorem specL2sum (a : Option Addr) (n c : Nat) (bs : List Int) (w : World) (hB : Bs w a n c bs) (hn : n ≤ 20000) :
    Calls Tryd.prog 96 #[.slice a n c] w fun e w' => ∃ v, e = .returned v ∧ w'.ownsRow w.heap.size 5 1 v 32 (U8 (sumOf bs)) ∧ Below w.heap.size w w' := by
  have hbl := hB.2.1
  have HN := specShaNew
  obtain ⟨H, hH⟩ : ∃ H, H = H0 := ⟨_, rfl⟩
  have h8 : H.length = 8 := by rw [hH]; exact H0_len
  have hwd : ∀ x ∈ H, 0 ≤ x ∧ x < 4294967296 := by rw [hH]; exact H0_words
  have hsum := sum_of_parts (bs := bs) hH
  rw [← hH] at HN
  obtain ⟨S, hS⟩ : ∃ S, S = sumOf bs := ⟨_, rfl⟩
  rw [← hS] at hsum ⊢
  have HN' : Hid _ := HN
  have HWD : Hid _ := hwd
  have HSUM : Hid _ := hsum
  have hbb := hB.2.2.2.1
  have HBB : Hid _ := hbb
  clear hH hS HN hwd hsum hbb
  go_enter Tryd.func96, Tryd.ntmps96
  go_wp2_with fail
  refine (HN'.out _).mono ?_
  rintro e w1 ⟨a1, c1, rfl, o1, b1⟩
  go_wp2_with fail
  refine (specAdd a1 c1 0 none 0 0 H [] a n c bs _ (is_of_own o1 (words_int HWD.out)) HWD.out (bs_none _) (hB.below b1) (by omega) (by omega) (by omega) (by omega)).mono ?_
  rintro e w2 ⟨v2, rfl, ⟨a2, c2, a3, c3, rfl, o2⟩, b2⟩
  have hAL : (allB H ([] ++ bs)).length = 8 := fld_len h8 _ _
  have HAW : Hid (∀ x ∈ allB H ([] ++ bs), 0 ≤ x ∧ x < 4294967296) := fld_word HWD.out _ _
  have hRL : (restB ([] ++ bs)).length ≤ 20000 := by have := restB_len ([] ++ bs); rw [List.nil_append] at this ⊢; omega
  have hbyR : ∀ x ∈ restB ([] ++ bs), 0 ≤ x ∧ x < 256 := drop_byte (by rw [List.nil_append]; exact HBB.out)
  have B2 := b1.trans (b2.mono b1.size)
  have s2 := B2.size
  have hNe : (0 : Int) + (bs.length : Int) = (bs.length : Int) := by omega
  rw [hAL] at o2 ⊢
  rw [hNe]
  have hfin : sumB (allB (allB H ([] ++ bs)) (restB ([] ++ bs) ++ padB bs.length)) = S := HSUM.out
  generalize allB H ([] ++ bs) = A at o2 hAL HAW hfin
  generalize restB ([] ++ bs) = R at o2 hRL hbyR hfin ⊢
  have IA := is_of_own o2.oh (words_int HAW.out)
  have BR := bs_of_own o2.ot hbyR
  obtain ⟨rl, hrl⟩ : ∃ rl, rl = R.length := ⟨_, rfl⟩
  rw [← hrl] at BR hRL ⊢
  obtain ⟨M, hM⟩ : ∃ M : Int, M = (bs.length : Int) := ⟨_, rfl⟩
  rw [← hM] at hfin ⊢
  have hM0 : 0 ≤ M := by omega
  have hM1 : M ≤ 20000 := by omega
  have HF : Hid _ := hfin
  clear o2 o1 b1 b2 hbyR hfin HSUM hM hrl hNe
  go_wp2_with fail
  refine (specEnd a2 c2 M a3 rl c3 A R _ IA HAW.out BR hM0 hM1 (by omega)).mono ?_
  rintro e w3 ⟨v3, rfl, o3, b3⟩
  have B3 := B2.trans (b3.mono B2.size)
  rw [HF.out] at o3
  have o3' := own_base o3 s2
  clear o3 b3 IA BR B2
  go_wp2
  go_ret
  exact ⟨_, rfl, o3', B3⟩

set_option maxHeartbeats 1000000 in
theorem specSha256 (a : Option Addr) (n c : Nat) (bs : List Int) (w : World) (hB : Bs w a n c bs) :
    Calls Tryd.prog 74 #[.slice a n c] w fun e w' => ∃ v, e = .returned v ∧ w'.ownsRow w.heap.size 5 1 v (s256 bs).length (U8 (s256 bs)) ∧ Below w.heap.size w w' := by
  have hbl := hB.2.1
  by_cases hn : 20000 < (n : Int)
  · have he : s256 bs = [] := by unfold s256; rw [if_neg (by omega)]
    have HE : Hid _ := he
    clear he
    go_enter Tryd.func74, Tryd.ntmps74
    go_wp2
    go_ret
    refine ⟨_, rfl, ?_, Below.refl _ _⟩
    rw [HE.out]
    exact World.ownsRow_nil _ _ _ _
  have he : s256 bs = sumOf bs := by unfold s256; rw [if_pos (by omega)]
  have HE : Hid _ := he
  clear he
  go_enter Tryd.func74, Tryd.ntmps74
  go_wp2_with fail
  refine (specL2sum a n c bs _ hB (by omega)).mono ?_
  rintro e w1 ⟨v1, rfl, o1, b1⟩
  have O1 : Hid (w1.ownsRow w.heap.size 5 1 v1 (s256 bs).length (U8 (s256 bs))) := by
    unfold Hid
    rw [HE.out, sumOf_len]
    exact o1
  clear o1
  go_wp2
  go_ret
  exact ⟨_, rfl, O1.out, b1⟩
end Go.Proofs.YtofflhhlacdgfaaDoor
namespace Go.Proofs.YtofflhhlacdgfaaDoor
open Go.RowKit

end Go.Proofs.YtofflhhlacdgfaaDoor
namespace Go.Proofs.YtofflhhlacdgfaaDoor
set_option maxRecDepth 100000
open Go.RowKit

structure Sh (W : World) (lo P : Nat) (aH : Option Addr) (nH cH : Nat) (N : Int) (aT : Option Addr) (nT cT : Nat) (hs ts : List Int) : Prop where
  p : Arr W P 95 [.slice aH nH cH, .int .i64 N, .slice aT nT cT]
  oh : W.ownsRow lo 3 1 (.slice aH nH cH) nH (I64 hs)
  ot : W.ownsRow lo 5 1 (.slice aT nT cT) nT (U8 ts)
  ap : Apart (.slice aH nH cH) (.slice aT nT cT)
  ih : In (.slice aH nH cH) lo P
  it : In (.slice aT nT cT) lo P

theorem Sh.of_own {w W : World} {aH : Option Addr} {nH cH : Nat} {aT : Option Addr} {nT cT : Nat} {hs ts : List Int} (o : OwnSha w W aH nH cH aT nT cT hs ts) (N : Int) :
    Sh (W.alloc (.cells #[.slice aH nH cH, .int .i64 N, .slice aT nT cT] 95)) w.heap.size W.heap.size aH nH cH N aT nT cT hs ts :=
  ⟨Arr.new _ _ _, o.oh.alloc _, o.ot.alloc _, o.ap, In.of o.oh, In.of o.ot⟩
section
variable {W W' : World} {lo P : Nat} {aH : Option Addr} {nH cH : Nat} {N : Int} {aT : Option Addr} {nT cT : Nat} {hs ts : List Int}
theorem Sh.below (h : Sh W lo P aH nH cH N aT nT cT hs ts) (hb : Below W.heap.size W W') : Sh W' lo P aH nH cH N aT nT cT hs ts :=
  ⟨h.p.kept hb, own_below h.oh hb, own_below h.ot hb, h.ap, h.ih, h.it⟩
theorem Sh.far2 (h : Sh W lo P aH nH cH N aT nT cT hs ts) {u1 u2 : Value} {a b : Nat} (hg : Gr2 W W' u1.ownBlock u2.ownBlock) (i1 : In u1 a b) (i2 : In u2 a b) (hl : b ≤ lo ∨ P < a) (hlp : lo ≤ P) : Sh W' lo P aH nH cH N aT nT cT hs ts :=
  ⟨hg.arr h.p (i1.ne (by omega)) (i2.ne (by omega)), hg.own h.oh (i1.apart h.ih (by omega)) (i2.apart h.ih (by omega)), hg.own h.ot (i1.apart h.it (by omega)) (i2.apart h.it (by omega)), h.ap, h.ih, h.it⟩
theorem Sh.far1 (h : Sh W lo P aH nH cH N aT nT cT hs ts) {u : Value} {a b : Nat} (hg : W.grownBy W' u.ownBlock) (i1 : In u a b) (hl : b ≤ lo ∨ P < a) (hlp : lo ≤ P) : Sh W' lo P aH nH cH N aT nT cT hs ts := by
  refine ⟨?_, own_kept h.oh hg (i1.apart h.ih (by omega)), own_kept h.ot hg (i1.apart h.it (by omega)), h.ap, h.ih, h.it⟩
  unfold Arr
  rw [hg.block P h.p.lt (fun e => i1.ne (by omega) e.symm)]
  exact h.p
theorem Sh.marked (h : Sh W lo P aH nH cH N aT nT cT hs ts) {hs' ts' : List Int} (hg : Gr2 W W' (Value.ownBlock (.slice aH nH cH)) (Value.ownBlock (.slice aT nT cT))) (oh : W'.ownsRow lo 3 1 (.slice aH nH cH) nH (I64 hs')) (ot : W'.ownsRow lo 5 1 (.slice aT nT cT) nT (U8 ts')) : Sh W' lo P aH nH cH N aT nT cT hs' ts' :=
  ⟨hg.arr h.p (h.ih.ne (by omega)) (h.it.ne (by omega)), oh, ot, h.ap, h.ih, h.it⟩
theorem Sh.cells (h : Sh W lo P aH nH cH N aT nT cT hs ts) : W.cell? ⟨P, 0, none⟩ = some (.slice aH nH cH) ∧ W.cell? ⟨P, 1, none⟩ = some (.int .i64 N) ∧ W.cell? ⟨P, 2, none⟩ = some (.slice aT nT cT) := ⟨h.p.cell 0, h.p.cell 1, h.p.cell 2⟩
end
theorem arr3 {W : World} {g : Nat} {t : TypeId} {a b c : Value} (h : Arr W g t [a, b, c]) : W.cell? ⟨g, 0, none⟩ = some a ∧ W.cell? ⟨g, 1, none⟩ = some b ∧ W.cell? ⟨g, 2, none⟩ = some c := ⟨h.cell 0, h.cell 1, h.cell 2⟩
end Go.Proofs.YtofflhhlacdgfaaDoor
namespace Go.Proofs.YtofflhhlacdgfaaDoor
set_option maxRecDepth 100000
open Go.RowKit

theorem H0_ok : shaOk H0 0 [] = true := by
  unfold shaOk
  simp only [Bool.and_eq_true, decide_eq_true_eq]
  exact ⟨(isW_iff H0).2 ⟨H0_len, H0_words⟩, by omega, by omega, by simp⟩
theorem addOk_H0 (bs : List Int) : addOk H0 0 [] bs = decide (bs.length ≤ 20000) := by
  unfold addOk
  rw [H0_ok, Bool.true_and]
  congr 1
  simp only [eq_iff_iff]
  omega
theorem addH_ints (hs : List Int) (N : Int) (ts bs : List Int) : ∀ x ∈ addH hs N ts bs, -9223372036854775808 ≤ x ∧ x ≤ 9223372036854775807 := by
  unfold addH
  split
  · rename_i h
    unfold addOk at h
    simp only [Bool.and_eq_true] at h
    exact words_int (fld_word (shaOk_parts h.1).2.1 _ _)
  · simp
theorem addT_bytes (hs : List Int) (N : Int) {ts bs : List Int} (h1 : ∀ x ∈ ts, 0 ≤ x ∧ x < 256) (h2 : ∀ x ∈ bs, 0 ≤ x ∧ x < 256) : ∀ x ∈ addT hs N ts bs, 0 ≤ x ∧ x < 256 := by
  unfold addT
  split
  · refine drop_byte (fun x hx => ?_)
    rcases List.mem_append.1 hx with h | h
    · exact h1 x h
    · exact h2 x h
  · simp

set_option maxHeartbeats 1000000 in
theorem implSha256 (a : Option Addr) (n c : Nat) (bs : List Int) (w : World) (hB : Bs w a n c bs) (ht : Tabs w) (hf : TabF w) :
    Calls Tryd.prog 26 #[.slice a n c] w fun e w' => ∃ v, e = .returned v ∧ w'.ownsRow w.heap.size 5 1 v (s256 bs).length (U8 (s256 bs)) ∧ Below w.heap.size w w' := by
  have hbl := hB.2.1
  have HN := implShaNew
  have hbb := hB.2.2.2.1
  have hend : bs.length ≤ 20000 → endOf (addH H0 0 [] bs) (addN H0 0 [] bs) (addT H0 0 [] bs) = sumOf bs := fun h => (end_of_add h H0_ok).2.2
  have hok := addOk_H0 bs
  have hin := addH_ints H0 0 [] bs
  have hby := addT_bytes H0 0 (ts := []) (bs := bs) (by simp) hbb
  obtain ⟨H, hH⟩ : ∃ H, H = H0 := ⟨_, rfl⟩
  have hwi : ∀ x ∈ H, -9223372036854775808 ≤ x ∧ x ≤ 9223372036854775807 := by rw [hH]; exact words_int H0_words
  rw [← hH] at HN hend hok hin hby
  have HI := fun a1 c1 w h1 h2 h3 ht => implShaAdd a1 8 c1 0 none 0 0 H [] a n c bs w h1 h2 h3 ht
  generalize addH H 0 [] bs = LH at HI hend hin
  generalize addN H 0 [] bs = M at HI hend
  generalize addT H 0 [] bs = LT at HI hend hby
  rw [hok] at HI
  have HN' : Hid _ := HN
  have HI' : Hid _ := HI
  have HWI : Hid _ := hwi
  have HIN : Hid _ := hin
  have HBY : Hid _ := hby
  have HEND : Hid _ := hend
  obtain ⟨S, hS⟩ : ∃ S, S = s256 bs := ⟨_, rfl⟩
  have hS1 : bs.length ≤ 20000 → S = sumOf bs := fun h => by rw [hS]; unfold s256; rw [if_pos h]
  have hS2 : ¬ bs.length ≤ 20000 → S = [] := fun h => by rw [hS]; unfold s256; rw [if_neg h]
  rw [← hS]
  have HS1 : Hid _ := hS1
  have HS2 : Hid _ := hS2
  obtain ⟨q, hq⟩ : ∃ q : Bool, q = decide (bs.length ≤ 20000) := ⟨_, rfl⟩
  rw [← hq] at HI'
  have hq' : (q = false ∧ ¬ bs.length ≤ 20000) ∨ (q = true ∧ bs.length ≤ 20000) := by
    by_cases h : bs.length ≤ 20000
    · exact .inr ⟨by rw [hq]; simp [h], h⟩
    · exact .inl ⟨by rw [hq]; simp [h], h⟩
  clear hH hS hS1 hS2 hq HN HI hwi hin hby hend hok hbb
  go_enter Tryd.func26, Tryd.ntmps26
  go_wp2_with fail
  refine (HN'.out _ hf).mono ?_
  rintro e w1 ⟨a1, c1, rfl, o1, b1⟩
  go_wp2_with fail
  refine (HI'.out a1 c1 _ (is_of_own o1 HWI.out) (bs_none _) (hB.below b1) (ht.below b1)).mono ?_
  rintro e w2 ⟨v2, rfl, ⟨a2, c2, a3, c3, rfl, o2⟩, b2⟩
  have B2 := b1.trans (b2.mono b1.size)
  have S2 := Sh.of_own o2 M
  obtain ⟨mH, emH⟩ : ∃ m, m = LH.length := ⟨_, rfl⟩
  obtain ⟨mT, emT⟩ : ∃ m, m = LT.length := ⟨_, rfl⟩
  rw [← emH, ← emT] at S2 ⊢
  have B3 : Below w.heap.size w (w2.alloc (.cells #[.slice a2 mH c2, .int .i64 M, .slice a3 mT c3] 95)) := B2.alloc B2.size _
  have HS3 : Hid _ := S2
  have HB3 : Hid _ := B3
  clear o1 o2 b1 b2 B2 emH emT S2 B3
  rcases hq' with ⟨rfl, hl⟩ | ⟨rfl, hl⟩
  · have e1 : S = [] := HS2.out hl
    have HE1 : Hid _ := e1
    clear e1
    go_wp2
    go_ret
    refine ⟨_, rfl, ?_, HB3.out⟩
    rw [HE1.out]
    exact World.ownsRow_nil _ _ _ _
  have e1 : endOf LH M LT = S := (HEND.out hl).trans (HS1.out hl).symm
  have HE1 : Hid _ := e1
  clear e1
  obtain ⟨W3, hW3⟩ : ∃ W3, W3 = w2.alloc (.cells #[.slice a2 mH c2, .int .i64 M, .slice a3 mT c3] 95) := ⟨_, rfl⟩
  rw [← hW3] at HS3 HB3
  go_wp2_with fail
  rw [← hW3]
  refine (implShaEnd a2 mH c2 M a3 mT c3 LH LT _ (is_of_own HS3.out.oh HIN.out) (bs_of_own HS3.out.ot HBY.out) (ht.below HB3.out)).mono ?_
  rintro e w4 ⟨v4, rfl, o4, b4⟩
  rw [HE1.out] at o4
  have B4 := HB3.out.trans (b4.mono HB3.out.size)
  have o4' := own_base o4 HB3.out.size
  clear o4 b4
  go_wp2
  go_ret
  exact ⟨_, rfl, o4', B4⟩
end Go.Proofs.YtofflhhlacdgfaaDoor
namespace Go.Proofs.YtofflhhlacdgfaaDoor
open Go.RowKit
set_option maxRecDepth 100000
set_option maxHeartbeats 1000000

theorem implIsIn (n a b : Int) (w : World) : Calls Tryd.prog 101 #[.int .i64 n, .int .i64 a, .int .i64 b] w fun e w' => e = .returned (.bool (decide (a ≤ n ∧ n ≤ b))) ∧ w' = w := by
  by_cases h1 : a ≤ n
  · by_cases h2 : n ≤ b
    · have e : decide (a ≤ n ∧ n ≤ b) = true := by simp [h1, h2]
      rw [e]
      go_enter Tryd.func101, Tryd.ntmps101
      go_wp2
      go_ret
      exact ⟨rfl, rfl⟩
    · have e : decide (a ≤ n ∧ n ≤ b) = false := by simp [h2]
      rw [e]
      go_enter Tryd.func101, Tryd.ntmps101
      go_wp2
      go_ret
      exact ⟨rfl, rfl⟩
  · have e : decide (a ≤ n ∧ n ≤ b) = false := by simp [h1]
    rw [e]
    go_enter Tryd.func101, Tryd.ntmps101
    go_wp2
    go_ret
    exact ⟨rfl, rfl⟩
end Go.Proofs.YtofflhhlacdgfaaDoor
namespace Go.Proofs.YtofflhhlacdgfaaDoor
open Go.RowKit
set_option maxRecDepth 100000
set_option maxHeartbeats 1000000

theorem implIsVersion (n : Int) (w : World) : Calls Tryd.prog 54 #[.int .i64 n] w fun e w' => e = .returned (.bool (decide (verOk n))) ∧ w' = w := by
  obtain ⟨R, hR⟩ : ∃ R, decide (verOk n) = R := ⟨_, rfl⟩
  rw [hR]
  have HR : Hid _ := hR
  clear hR
  go_enter Tryd.func54, Tryd.ntmps54
  go_wp2_with fail
  refine (implIsIn n 0 1000 _).mono ?_
  rintro e w1 ⟨rfl, hw⟩
  rw [hw]
  rw [show decide (0 ≤ n ∧ n ≤ 1000) = R from HR.out]
  go_wp2
  go_ret
  exact ⟨rfl, rfl⟩
theorem implIsKind (n : Int) (w : World) : Calls Tryd.prog 102 #[.int .i64 n] w fun e w' => e = .returned (.bool (decide (0 ≤ n ∧ n < 4))) ∧ w' = w := by
  obtain ⟨R, hR⟩ : ∃ R, decide (0 ≤ n ∧ n < 4) = R := ⟨_, rfl⟩
  rw [hR]
  have HR : Hid _ := hR
  clear hR
  go_enter Tryd.func102, Tryd.ntmps102
  go_wp2_with fail
  refine (implIsIn n 0 3 _).mono ?_
  rintro e w1 ⟨rfl, hw⟩
  rw [hw]
  rw [show decide (0 ≤ n ∧ n ≤ 3) = R from by rw [← HR.out]; apply decide_eq_decide.2; omega]
  go_wp2
  go_ret
  exact ⟨rfl, rfl⟩
def cmpI (a b : Int) : Int := if a < b then -1 else if b < a then 1 else 0
theorem cmpI_neg (a b : Int) : cmpI a b < 0 ↔ a < b := by unfold cmpI; split <;> (try split) <;> omega
theorem cmpI_zero (a b : Int) : cmpI a b = 0 ↔ a = b := by unfold cmpI; split <;> (try split) <;> omega
theorem cmpI_int (a b : Int) : -1 ≤ cmpI a b ∧ cmpI a b ≤ 1 := by unfold cmpI; split <;> (try split) <;> omega
theorem libCompare (a b : Int) (w : World) : Calls Tryd.prog 103 #[.int .i64 a, .int .i64 b] w fun e w' => e = .returned (.int .i64 (cmpI a b)) ∧ w' = w := by
  have ha : (a != a) = false := by simp
  have hb : (b != b) = false := by simp
  by_cases h1 : a < b
  · have e1 : cmpI a b = -1 := by unfold cmpI; simp [h1]
    rw [e1]
    clear e1
    go_enter Tryd.func103, Tryd.ntmps103
    go_wp2
    go_ret
    exact ⟨rfl, rfl⟩
  · by_cases h2 : b < a
    · have e1 : cmpI a b = 1 := by unfold cmpI; simp [h1, h2]
      rw [e1]
      clear e1
      go_enter Tryd.func103, Tryd.ntmps103
      go_wp2
      go_ret
      exact ⟨rfl, rfl⟩
    · have e1 : cmpI a b = 0 := by unfold cmpI; simp [h1, h2]
      rw [e1]
      clear e1
      go_enter Tryd.func103, Tryd.ntmps103
      go_wp2
      go_ret
      exact ⟨rfl, rfl⟩
abbrev keyOk1 (i r : Int) (n : Nat) : Prop := (0 ≤ i ∧ i ≤ 255) ∧ (r = 1 ∨ r = 2) ∧ n = 32
theorem implKeyOk (i r : Int) (v : Bool) (a : Option Addr) (n c : Nat) (w : World) : Calls Tryd.prog 86 #[.agg #[.int .i64 i, .int .i64 r, .bool v, .slice a n c]] w fun e w' => e = .returned (.bool (decide (keyOk1 i r n))) ∧ Below w.heap.size w w' := by
  obtain ⟨R, hR, HT, HF⟩ := by_dec (keyOk1 i r n)
  rw [hR]
  clear hR
  have B : Below w.heap.size w (w.alloc (.cells #[.int .i64 i, .int .i64 r, .bool v, .slice a n c] 57)) := (Below.refl _ _).alloc (Nat.le_refl _) _
  obtain ⟨W, hW⟩ : ∃ W, W = w.alloc (.cells #[.int .i64 i, .int .i64 r, .bool v, .slice a n c] 57) := ⟨_, rfl⟩
  have A : Arr W w.heap.size 57 [.int .i64 i, .int .i64 r, .bool v, .slice a n c] := by rw [hW]; exact Arr.new _ _ _
  rw [← hW] at B
  have c0 := A.cell 0
  have c1 := A.cell 1
  have c3 := A.cell 3
  simp at c0 c1 c3
  clear A
  go_enter Tryd.func86, Tryd.ntmps86
  go_upto_region 1 with fail
  rw [← hW]
  clear hW
  go_wp2_with fail
  refine (implIsIn i 0 255 _).mono ?_
  rintro e w1 ⟨rfl, hw⟩
  rw [hw]
  clear hw
  by_cases h1 : 0 ≤ i ∧ i ≤ 255
  case neg =>
    rw [decide_eq_false h1]
    go_wp2
    go_ret
    exact ⟨by rw [HF.out (by omega)]; rfl, B⟩
  rw [decide_eq_true h1]
  by_cases h4 : (n : Int) = 32
  · have g4 : ((n : Int) == 32) = true := by simpa using h4
    have n4 : Hid (n = 32) := by unfold Hid; omega
    clear h4
    by_cases h2 : r = 1
    · have g2 : (r == 1) = true := by simpa using h2
      have HRT : Hid (R = true) := HT.out ⟨h1, .inl h2, n4.out⟩
      clear h2 h1
      go_wp2
      go_ret
      exact ⟨by rw [HRT.out]; rfl, B⟩
    · have g2 : (r == 1) = false := by simpa using h2
      by_cases h3 : r = 2
      · have g3 : (r == 2) = true := by simpa using h3
        have HRT : Hid (R = true) := HT.out ⟨h1, .inr h3, n4.out⟩
        clear h2 h3 h1
        go_wp2
        go_ret
        exact ⟨by rw [HRT.out]; rfl, B⟩
      · have g3 : (r == 2) = false := by simpa using h3
        have HRT : Hid (R = false) := HF.out (by omega)
        clear h2 h3 h1
        go_wp2
        go_ret
        exact ⟨by rw [HRT.out]; rfl, B⟩
  · have g4 : ((n : Int) == 32) = false := by simpa using h4
    have HRT : Hid (R = false) := HF.out (by omega)
    clear h4
    by_cases h2 : r = 1
    · have g2 : (r == 1) = true := by simpa using h2
      clear h2 h1
      go_wp2
      go_ret
      exact ⟨by rw [HRT.out]; rfl, B⟩
    · have g2 : (r == 1) = false := by simpa using h2
      by_cases h3 : r = 2
      · have g3 : (r == 2) = true := by simpa using h3
        clear h2 h3 h1
        go_wp2
        go_ret
        exact ⟨by rw [HRT.out]; rfl, B⟩
      · have g3 : (r == 2) = false := by simpa using h3
        clear h2 h3 h1
        go_wp2
        go_ret
        exact ⟨by rw [HRT.out]; rfl, B⟩
theorem implCompareKey (i r : Int) (v : Bool) (a : Option Addr) (n c : Nat) (i' r' : Int) (v' : Bool) (a' : Option Addr) (n' c' : Nat) (w : World) :
    Calls Tryd.prog 87 #[.agg #[.int .i64 i, .int .i64 r, .bool v, .slice a n c], .agg #[.int .i64 i', .int .i64 r', .bool v', .slice a' n' c']] w fun e w' => e = .returned (.int .i64 (cmpI i i')) ∧ Below w.heap.size w w' := by
  have B : Below w.heap.size w ((w.alloc (.cells #[.int .i64 i, .int .i64 r, .bool v, .slice a n c] 57)).alloc (.cells #[.int .i64 i', .int .i64 r', .bool v', .slice a' n' c'] 57)) := ((Below.refl _ _).alloc (Nat.le_refl _) _).alloc (by simp) _
  have HB : Hid _ := B
  clear B
  go_enter Tryd.func87, Tryd.ntmps87
  go_wp2_with fail
  refine (libCompare i i' _).mono ?_
  rintro e w1 ⟨rfl, hw⟩
  rw [hw]
  clear hw
  obtain ⟨z, hz⟩ : ∃ z, z = cmpI i i' := ⟨_, rfl⟩
  rw [← hz]
  have HZ : Hid _ := hz
  clear hz
  go_wp2
  go_ret
  exact ⟨by rw [← HZ.out]; rfl, HB.out⟩
end Go.Proofs.YtofflhhlacdgfaaDoor

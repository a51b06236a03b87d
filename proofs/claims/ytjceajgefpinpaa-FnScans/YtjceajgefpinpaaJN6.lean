/-
  What is proved here: what a draw of records to be folded (the specification's DrawFold) answers; the contract of the program's isIn; what the laws' eqRec, eqBoot and both sides' small tests of numbers answer.
-/
import Derived.Test.YtjceajgefpinpaaJN5
import Derived.Test.YtjceajgefpinpaaZb1
import Derived.Test.YtjceajgefpinpaaJN1
import Derived.Test.YtjceajgefpinpaaJN2
import Derived.Deep.CutRange
namespace Go.Proofs.Ytjceajgefpinpaa
open Go.RowKit
set_option maxRecDepth 100000
set_option maxHeartbeats 8000000
set_option linter.unusedVariables false

theorem Dz0.grow {w W W' : World} {p : Nat} {a : Option Addr} {n c g : Nat} (h : Dz0 w W p a n c) (hp : p < w.heap.size) (hg : W.grownBy W' (some g)) (hlo : w.heap.size ≤ g) : Dz0 w W' p a n c :=
  ⟨cur_keep h.cu hg (by intro e; injection e with e; omega), grown_into h.gr hg (fun k hk => .inl (by injection hk with hk; omega))⟩
theorem Sw.p {w W W' : World} {p g o n cap : Nat} {L : List Rc} (h : Sw W w.heap.size g o n cap L) (hp : p < w.heap.size) (hg : W.grownBy W' (some p)) : Sw W' w.heap.size g o n cap L :=
  h.kept hg (by intro e; injection e with e; have := h.lo; omega)
def lenV : Value → Nat
  | .slice _ n _ => n
  | _ => 0
theorem drawFold (a : Option Addr) (n c : Nat) (xs : List Int) (w : World) (h : Bs w a n c xs) (hm : n ≤ 9223372036854775807) :
    Calls Try.prog 17 #[.slice a n c] w fun e w' => ∃ (g o N cap : Nat) (L : List Rc), e = .returned (.slice (some ⟨g, o, none⟩) N cap) ∧ Rs w' (some ⟨g, o, none⟩) N cap L ∧ N ≤ 33 ∧ Below w.heap.size w w' := by
  have HBs : Hid (Bs w a n c xs) := h
  go_enter Try.func17, Try.ntmps17
  clear h
  go_wp2_with fail
  refine (curNew a n c xs _ HBs.out hm).mono ?_
  rintro e w1 ⟨rfl, hc1, hd1, hs1, hb1⟩
  obtain ⟨p, hp⟩ : ∃ p, p = w.heap.size := ⟨_, rfl⟩
  rw [← hp] at hc1 hd1 ⊢
  have hcode := hd1
  have D : Dz0 w1 w1 p a n c := ⟨hc1, World.grownBy.refl _ _⟩
  have hp0 := cur_lt hc1
  have HW : Hid (Below w.heap.size w w1) := hb1
  have HP : Hid (w.heap.size ≤ p) := by unfold Hid; omega
  clear hc1 hd1 hs1 hb1 hp HBs
  go_wp2_with fail
  refine (curList p a n c xs _ D.cu (hcode.grown D.gr)).mono ?_
  rintro e w2 ⟨L, v, rfl, ho, hokL, h2, h10, hc, hg⟩
  replace D := D.draw hc hg
  obtain ⟨N, hN⟩ : ∃ N, N = L.length := ⟨_, rfl⟩
  rw [← hN] at ho h2 h10
  obtain ⟨g, o, cap, rfl, S⟩ : ∃ g o cap, v = .slice (some ⟨g, o, none⟩) N cap ∧ Sw w2 w1.heap.size g o N cap L := by
    obtain ⟨g, cap, e, S⟩ := Sw.of ho (by omega)
    exact ⟨g, 0, cap, e, S⟩
  clear hc hg ho hN hokL
  go_wp2_with fail
  refine (curOnce p a n c xs _ _ D.cu (hcode.grown D.gr) (by omega)).mono ?_
  rintro e w_q5 ⟨q5, rfl, hc, hg⟩
  replace D := D.draw hc hg
  replace S := S.p hp0 hg
  clear hc hg
  cases q5
  · replace h10 : N ≤ 11 := by omega
    go_wp2_with fail
    refine (curOnce p a n c xs _ _ D.cu (hcode.grown D.gr) (by omega)).mono ?_
    rintro e w_q8 ⟨q8, rfl, hc, hg⟩
    replace D := D.draw hc hg
    replace S := S.p hp0 hg
    clear hc hg
    cases q8
    · go_wp2_with fail
      refine (curOnce p a n c xs _ _ D.cu (hcode.grown D.gr) (by omega)).mono ?_
      rintro e w_q30 ⟨q30, rfl, hc, hg⟩
      replace D := D.draw hc hg
      replace S := S.p hp0 hg
      clear hc hg
      cases q30
      · have HR : Hid _ := S.rs
        have BB := HW.out.grown D.gr HW.out.size (fun k hk => by injection hk with hk; have := HP.out; omega)
        clear D S
        go_wp2
        go_ret
        exact ⟨_, _, _, _, _, rfl, HR.out, by omega, BB⟩
      · go_wp2
        go_loopw [4] (fun v wr => ∃ (g o N cap : Nat) (L : List Rc), v = .slice (some ⟨g, o, none⟩) N cap ∧ 1 ≤ N ∧ N ≤ 33 ∧ Sw wr w1.heap.size g o N cap L ∧ Dz0 w1 wr p a n c) (fun v _ => 33 - lenV v)
        case atStart => exact ⟨_, _, _, _, _, rfl, by omega, by omega, S, D⟩
        case round =>
          clear S D
          obtain ⟨g, o, N, cap, L, rfl, hN1, hN2, S, D⟩ := hrel
          go_wp2_with fail
          refine (curBelow p a n c xs _ _ D.cu (hcode.grown D.gr) (by omega)).mono ?_
          rintro e w_x ⟨x, rfl, h0_x, h1_x, _, hc, hg⟩
          replace h1_x := h1_x (by omega)
          replace D := D.draw hc hg
          replace S := S.p hp0 hg
          clear hc hg
          have hwx : IntKind.i64.wrap (32 + x) = 32 + x := wr64 (by omega) (by omega)
          by_cases hlt : (N : Int) < 32 + x
          · have slo := S.lo
            have HS : Hid _ := S
            clear S
            go_wp2_with (at_builtin; refine wpl_app_sw rfl _ _ rfl w1.heap.size g o N cap L rfl w_x.heap.size 1 ⟨4, 0, 0, 0⟩ rfl (HS.out.kept (grown_alloc w_x _ none) (by simp)) (Arr.new w_x [.int .i64 4, .int .i64 0, .int .i64 0, .int .i64 0] 29) (by omega) ?_)
            intro g' o' cap' w4 S g4
            replace D : Dz0 w1 w4 p a n c := (D.alloc _).grow hp0 g4 slo
            clear g4 HS slo
            go_wp2
            go_roundw
            case rel => exact ⟨_, _, _, _, _, rfl, by omega, by omega, S, D⟩
            case measure => simp only [lenV]; omega
          · have HR : Hid _ := S.rs
            have BB := HW.out.grown D.gr HW.out.size (fun k hk => by injection hk with hk; have := HP.out; omega)
            clear D S
            go_wp2
            go_ret
            exact ⟨_, _, _, _, _, rfl, HR.out, by omega, BB⟩
    · obtain ⟨M, rfl⟩ : ∃ M, N = M + 1 := ⟨N - 1, by omega⟩
      obtain ⟨K, rfl⟩ : ∃ K, cap = K + 1 := ⟨cap - 1, by have := S.le; omega⟩
      have S2 := S.tail (by omega)
      simp only [Nat.add_sub_cancel] at S2
      have hle := S.le
      have hmk : M ≤ K := by omega
      have i1 : (1 : Int) ≤ ((M + 1 : Nat) : Int) := by omega
      have i2 : (1 : Int) ≤ ((K + 1 : Nat) : Int) := by omega
      have i3 : ((M + 1 : Nat) : Int) ≤ ((K + 1 : Nat) : Int) := by omega
      have h2' : 1 ≤ M := by omega
      have h10' : M ≤ 10 := by omega
      clear S h2 h10 hle
      obtain ⟨L2, hL2⟩ : ∃ L2, L2 = L.tail := ⟨_, rfl⟩
      rw [← hL2] at S2
      clear hL2
      have S := S2
      clear S2
      go_wp2_with fail
      refine (curOnce p a n c xs _ _ D.cu (hcode.grown D.gr) (by omega)).mono ?_
      rintro e w_q30 ⟨q30, rfl, hc, hg⟩
      replace D := D.draw hc hg
      replace S := S.p hp0 hg
      clear hc hg
      cases q30
      · have HR : Hid _ := S.rs
        have BB := HW.out.grown D.gr HW.out.size (fun k hk => by injection hk with hk; have := HP.out; omega)
        clear D S
        go_wp2
        go_ret
        exact ⟨_, _, _, _, _, rfl, HR.out, by omega, BB⟩
      · go_wp2
        go_loopw [4] (fun v wr => ∃ (g o N cap : Nat) (L : List Rc), v = .slice (some ⟨g, o, none⟩) N cap ∧ 1 ≤ N ∧ N ≤ 33 ∧ Sw wr w1.heap.size g o N cap L ∧ Dz0 w1 wr p a n c) (fun v _ => 33 - lenV v)
        case atStart => exact ⟨_, _, _, _, _, rfl, by omega, by omega, S, D⟩
        case round =>
          clear S D
          obtain ⟨g, o, N, cap, L, rfl, hN1, hN2, S, D⟩ := hrel
          go_wp2_with fail
          refine (curBelow p a n c xs _ _ D.cu (hcode.grown D.gr) (by omega)).mono ?_
          rintro e w_x ⟨x, rfl, h0_x, h1_x, _, hc, hg⟩
          replace h1_x := h1_x (by omega)
          replace D := D.draw hc hg
          replace S := S.p hp0 hg
          clear hc hg
          have hwx : IntKind.i64.wrap (32 + x) = 32 + x := wr64 (by omega) (by omega)
          by_cases hlt : (N : Int) < 32 + x
          · have slo := S.lo
            have HS : Hid _ := S
            clear S
            go_wp2_with (at_builtin; refine wpl_app_sw rfl _ _ rfl w1.heap.size g o N cap L rfl w_x.heap.size 1 ⟨4, 0, 0, 0⟩ rfl (HS.out.kept (grown_alloc w_x _ none) (by simp)) (Arr.new w_x [.int .i64 4, .int .i64 0, .int .i64 0, .int .i64 0] 29) (by omega) ?_)
            intro g' o' cap' w4 S g4
            replace D : Dz0 w1 w4 p a n c := (D.alloc _).grow hp0 g4 slo
            clear g4 HS slo
            go_wp2
            go_roundw
            case rel => exact ⟨_, _, _, _, _, rfl, by omega, by omega, S, D⟩
            case measure => simp only [lenV]; omega
          · have HR : Hid _ := S.rs
            have BB := HW.out.grown D.gr HW.out.size (fun k hk => by injection hk with hk; have := HP.out; omega)
            clear D S
            go_wp2
            go_ret
            exact ⟨_, _, _, _, _, rfl, HR.out, by omega, BB⟩
  · go_wp2_with fail
    refine (curBentRec p a n c xs _ D.cu (hcode.grown D.gr)).mono ?_
    rintro e w3 ⟨⟨rk, rb, rn, rf⟩, rfl, _, hc, hg⟩
    replace D := D.draw hc hg
    replace S := S.p hp0 hg
    clear hc hg
    dsimp only
    have slo := S.lo
    have HS : Hid _ := S
    clear S
    go_wp2_with (at_builtin; refine wpl_app_sw rfl _ _ rfl w1.heap.size g o N cap L rfl w3.heap.size 1 ⟨rk, rb, rn, rf⟩ rfl (HS.out.kept (grown_alloc w3 _ none) (by simp)) (Arr.new w3 [.int .i64 rk, .int .i64 rb, .int .i64 rn, .int .i64 rf] 29) (by omega) ?_)
    intro g' o' cap' w4 S g4
    replace D : Dz0 w1 w4 p a n c := (D.alloc _).grow hp0 g4 slo
    clear g4 HS slo
    obtain ⟨L', hL⟩ : ∃ L', L' = L ++ [(⟨rk, rb, rn, rf⟩ : Rc)] := ⟨_, rfl⟩
    rw [← hL] at S
    clear hL L
    obtain ⟨N2, hN2⟩ : ∃ N2, N2 = N + 1 := ⟨_, rfl⟩
    rw [← hN2] at S ⊢
    replace h2 : 2 ≤ N2 := by omega
    replace h10 : N2 ≤ 11 := by omega
    clear hN2
    go_wp2_with fail
    refine (curOnce p a n c xs _ _ D.cu (hcode.grown D.gr) (by omega)).mono ?_
    rintro e w_q8 ⟨q8, rfl, hc, hg⟩
    replace D := D.draw hc hg
    replace S := S.p hp0 hg
    clear hc hg
    cases q8
    · go_wp2_with fail
      refine (curOnce p a n c xs _ _ D.cu (hcode.grown D.gr) (by omega)).mono ?_
      rintro e w_q30 ⟨q30, rfl, hc, hg⟩
      replace D := D.draw hc hg
      replace S := S.p hp0 hg
      clear hc hg
      cases q30
      · have HR : Hid _ := S.rs
        have BB := HW.out.grown D.gr HW.out.size (fun k hk => by injection hk with hk; have := HP.out; omega)
        clear D S
        go_wp2
        go_ret
        exact ⟨_, _, _, _, _, rfl, HR.out, by omega, BB⟩
      · go_wp2
        go_loopw [4] (fun v wr => ∃ (g o N cap : Nat) (L : List Rc), v = .slice (some ⟨g, o, none⟩) N cap ∧ 1 ≤ N ∧ N ≤ 33 ∧ Sw wr w1.heap.size g o N cap L ∧ Dz0 w1 wr p a n c) (fun v _ => 33 - lenV v)
        case atStart => exact ⟨_, _, _, _, _, rfl, by omega, by omega, S, D⟩
        case round =>
          clear S D
          obtain ⟨g, o, N, cap, L, rfl, hN1, hN2, S, D⟩ := hrel
          go_wp2_with fail
          refine (curBelow p a n c xs _ _ D.cu (hcode.grown D.gr) (by omega)).mono ?_
          rintro e w_x ⟨x, rfl, h0_x, h1_x, _, hc, hg⟩
          replace h1_x := h1_x (by omega)
          replace D := D.draw hc hg
          replace S := S.p hp0 hg
          clear hc hg
          have hwx : IntKind.i64.wrap (32 + x) = 32 + x := wr64 (by omega) (by omega)
          by_cases hlt : (N : Int) < 32 + x
          · have slo := S.lo
            have HS : Hid _ := S
            clear S
            go_wp2_with (at_builtin; refine wpl_app_sw rfl _ _ rfl w1.heap.size g o N cap L rfl w_x.heap.size 1 ⟨4, 0, 0, 0⟩ rfl (HS.out.kept (grown_alloc w_x _ none) (by simp)) (Arr.new w_x [.int .i64 4, .int .i64 0, .int .i64 0, .int .i64 0] 29) (by omega) ?_)
            intro g' o' cap' w4 S g4
            replace D : Dz0 w1 w4 p a n c := (D.alloc _).grow hp0 g4 slo
            clear g4 HS slo
            go_wp2
            go_roundw
            case rel => exact ⟨_, _, _, _, _, rfl, by omega, by omega, S, D⟩
            case measure => simp only [lenV]; omega
          · have HR : Hid _ := S.rs
            have BB := HW.out.grown D.gr HW.out.size (fun k hk => by injection hk with hk; have := HP.out; omega)
            clear D S
            go_wp2
            go_ret
            exact ⟨_, _, _, _, _, rfl, HR.out, by omega, BB⟩
    · obtain ⟨M, rfl⟩ : ∃ M, N2 = M + 1 := ⟨N2 - 1, by omega⟩
      obtain ⟨K, rfl⟩ : ∃ K, cap' = K + 1 := ⟨cap' - 1, by have := S.le; omega⟩
      have S2 := S.tail (by omega)
      simp only [Nat.add_sub_cancel] at S2
      have hle := S.le
      have hmk : M ≤ K := by omega
      have i1 : (1 : Int) ≤ ((M + 1 : Nat) : Int) := by omega
      have i2 : (1 : Int) ≤ ((K + 1 : Nat) : Int) := by omega
      have i3 : ((M + 1 : Nat) : Int) ≤ ((K + 1 : Nat) : Int) := by omega
      have h2' : 1 ≤ M := by omega
      have h10' : M ≤ 10 := by omega
      clear S h2 h10 hle
      obtain ⟨L2, hL2⟩ : ∃ L2, L2 = L'.tail := ⟨_, rfl⟩
      rw [← hL2] at S2
      clear hL2
      have S := S2
      clear S2
      go_wp2_with fail
      refine (curOnce p a n c xs _ _ D.cu (hcode.grown D.gr) (by omega)).mono ?_
      rintro e w_q30 ⟨q30, rfl, hc, hg⟩
      replace D := D.draw hc hg
      replace S := S.p hp0 hg
      clear hc hg
      cases q30
      · have HR : Hid _ := S.rs
        have BB := HW.out.grown D.gr HW.out.size (fun k hk => by injection hk with hk; have := HP.out; omega)
        clear D S
        go_wp2
        go_ret
        exact ⟨_, _, _, _, _, rfl, HR.out, by omega, BB⟩
      · go_wp2
        go_loopw [4] (fun v wr => ∃ (g o N cap : Nat) (L : List Rc), v = .slice (some ⟨g, o, none⟩) N cap ∧ 1 ≤ N ∧ N ≤ 33 ∧ Sw wr w1.heap.size g o N cap L ∧ Dz0 w1 wr p a n c) (fun v _ => 33 - lenV v)
        case atStart => exact ⟨_, _, _, _, _, rfl, by omega, by omega, S, D⟩
        case round =>
          clear S D
          obtain ⟨g, o, N, cap, L, rfl, hN1, hN2, S, D⟩ := hrel
          go_wp2_with fail
          refine (curBelow p a n c xs _ _ D.cu (hcode.grown D.gr) (by omega)).mono ?_
          rintro e w_x ⟨x, rfl, h0_x, h1_x, _, hc, hg⟩
          replace h1_x := h1_x (by omega)
          replace D := D.draw hc hg
          replace S := S.p hp0 hg
          clear hc hg
          have hwx : IntKind.i64.wrap (32 + x) = 32 + x := wr64 (by omega) (by omega)
          by_cases hlt : (N : Int) < 32 + x
          · have slo := S.lo
            have HS : Hid _ := S
            clear S
            go_wp2_with (at_builtin; refine wpl_app_sw rfl _ _ rfl w1.heap.size g o N cap L rfl w_x.heap.size 1 ⟨4, 0, 0, 0⟩ rfl (HS.out.kept (grown_alloc w_x _ none) (by simp)) (Arr.new w_x [.int .i64 4, .int .i64 0, .int .i64 0, .int .i64 0] 29) (by omega) ?_)
            intro g' o' cap' w4 S g4
            replace D : Dz0 w1 w4 p a n c := (D.alloc _).grow hp0 g4 slo
            clear g4 HS slo
            go_wp2
            go_roundw
            case rel => exact ⟨_, _, _, _, _, rfl, by omega, by omega, S, D⟩
            case measure => simp only [lenV]; omega
          · have HR : Hid _ := S.rs
            have BB := HW.out.grown D.gr HW.out.size (fun k hk => by injection hk with hk; have := HP.out; omega)
            clear D S
            go_wp2
            go_ret
            exact ⟨_, _, _, _, _, rfl, HR.out, by omega, BB⟩
end Go.Proofs.Ytjceajgefpinpaa
namespace Go.Proofs.Ytjceajgefpinpaa
open Go.RowKit
set_option maxRecDepth 100000
set_option maxHeartbeats 1000000

theorem implIsIn (n a b : Int) (w : World) : Calls Try.prog 61 #[.int .i64 n, .int .i64 a, .int .i64 b] w fun e w' => e = .returned (.bool (decide (a ≤ n ∧ n ≤ b))) ∧ w' = w := by
  by_cases h1 : a ≤ n
  · by_cases h2 : n ≤ b
    · have e : decide (a ≤ n ∧ n ≤ b) = true := by simp [h1, h2]
      rw [e]
      go_enter Try.func61, Try.ntmps61
      go_wp2
      go_ret
      exact ⟨rfl, rfl⟩
    · have e : decide (a ≤ n ∧ n ≤ b) = false := by simp [h2]
      rw [e]
      go_enter Try.func61, Try.ntmps61
      go_wp2
      go_ret
      exact ⟨rfl, rfl⟩
  · have e : decide (a ≤ n ∧ n ≤ b) = false := by simp [h1]
    rw [e]
    go_enter Try.func61, Try.ntmps61
    go_wp2
    go_ret
    exact ⟨rfl, rfl⟩
end Go.Proofs.Ytjceajgefpinpaa
namespace Go.Proofs.Ytjceajgefpinpaa
open Go.RowKit
set_option maxRecDepth 100000
set_option maxHeartbeats 1000000

theorem eqRecC (k b n f : Int) (w : World) : Calls Try.prog 31 #[rcV k b n f, rcV k b n f] w fun e w' => e = .returned (.bool true) ∧ Below w.heap.size w w' := by
  have B : Hid (∀ o1 o2 : Obj, Below w.heap.size w ((w.alloc o1).alloc o2)) := fun o1 o2 => ((Below.refl _ _).alloc (Nat.le_refl _) _).alloc (by simp) _
  have h1 : (k != k) = false := by simp
  have h2 : (b != b) = false := by simp
  have h3 : (n != n) = false := by simp
  have h4 : (f != f) = false := by simp
  go_enter Try.func31, Try.ntmps31
  go_wp2
  go_ret
  exact ⟨rfl, B.out _ _⟩
theorem eqBootC (b n f : Int) (t : Bool) (i o : Int) (w : World) : Calls Try.prog 40 #[btV b n f t i o, btV b n f t i o] w fun e w' => e = .returned (.bool true) ∧ Below w.heap.size w w' := by
  have B : Hid (∀ o1 o2 : Obj, Below w.heap.size w ((w.alloc o1).alloc o2)) := fun o1 o2 => ((Below.refl _ _).alloc (Nat.le_refl _) _).alloc (by simp) _
  have h1 : (i != i) = false := by simp
  have h2 : (b != b) = false := by simp
  have h3 : (n != n) = false := by simp
  have h4 : (f != f) = false := by simp
  have h5 : (o != o) = false := by simp
  have h6 : (t != t) = false := by simp
  go_enter Try.func40, Try.ntmps40
  go_wp2
  go_ret
  exact ⟨rfl, B.out _ _⟩
theorem spec8ver (n : Int) (w : World) : Calls Try.prog 62 #[.int .i64 n] w fun e w' => e = .returned (.bool (decide (0 ≤ n ∧ n ≤ 1000))) ∧ w' = w := by
  obtain ⟨R, hR, HT, HF⟩ := by_dec0 (0 ≤ n ∧ n ≤ 1000)
  rw [hR]
  clear hR
  by_cases h1 : 0 ≤ n
  · by_cases h2 : n ≤ 1000
    all_goals
      go_enter Try.func62, Try.ntmps62
      go_wp2
      go_ret
      exact ⟨by first | (rw [HF.out (by omega)]; rfl) | (rw [HT.out (by omega)]; rfl), rfl⟩
  · go_enter Try.func62, Try.ntmps62
    go_wp2
    go_ret
    exact ⟨by first | (rw [HF.out (by omega)]; rfl) | (rw [HT.out (by omega)]; rfl), rfl⟩
theorem implIsVer (n : Int) (w : World) : Calls Try.prog 58 #[.int .i64 n] w fun e w' => e = .returned (.bool (decide (0 ≤ n ∧ n ≤ 1000))) ∧ w' = w := by
  obtain ⟨R, hR⟩ : ∃ R, decide (0 ≤ n ∧ n ≤ 1000) = R := ⟨_, rfl⟩
  rw [hR]
  have HR : Hid _ := hR
  clear hR
  go_enter Try.func58, Try.ntmps58
  go_wp2_with fail
  refine (implIsIn n 0 1000 _).mono ?_
  rintro e w1 ⟨rfl, hw⟩
  rw [hw, HR.out]
  go_wp2
  go_ret
  exact ⟨rfl, rfl⟩
theorem implIsNum (n : Int) (w : World) : Calls Try.prog 60 #[.int .i64 n] w fun e w' => e = .returned (.bool (decide (1 ≤ n ∧ n ≤ 1000))) ∧ w' = w := by
  obtain ⟨R, hR⟩ : ∃ R, decide (1 ≤ n ∧ n ≤ 1000) = R := ⟨_, rfl⟩
  rw [hR]
  have HR : Hid _ := hR
  clear hR
  go_enter Try.func60, Try.ntmps60
  go_wp2_with fail
  refine (implIsIn n 1 1000 _).mono ?_
  rintro e w1 ⟨rfl, hw⟩
  rw [hw, HR.out]
  go_wp2
  go_ret
  exact ⟨rfl, rfl⟩
theorem implIsBank (n : Int) (w : World) : Calls Try.prog 59 #[.int .i64 n] w fun e w' => e = .returned (.bool (decide (0 ≤ n ∧ n ≤ 1))) ∧ w' = w := by
  obtain ⟨R, hR⟩ : ∃ R, decide (0 ≤ n ∧ n ≤ 1) = R := ⟨_, rfl⟩
  rw [hR]
  have HR : Hid _ := hR
  clear hR
  go_enter Try.func59, Try.ntmps59
  go_wp2_with fail
  refine (implIsIn n 0 1 _).mono ?_
  rintro e w1 ⟨rfl, hw⟩
  rw [hw, HR.out]
  go_wp2
  go_ret
  exact ⟨rfl, rfl⟩
end Go.Proofs.Ytjceajgefpinpaa

/-
  What is proved here: what the specification's l8data and DrawPartOf answer.
-/
import Derived.Test.YtofflhhlacdgfaaDoorKf2
import Derived.Test.YtofflhhlacdgfaaDoorJP1
namespace Go.Proofs.YtofflhhlacdgfaaDoor
open Go.RowKit
set_option maxRecDepth 100000
set_option maxHeartbeats 4000000
set_option linter.unusedVariables false

abbrev bytesF (ys : List Int) : Prop := ∀ x ∈ ys, 0 ≤ x ∧ x < 256
theorem u8_appF (xs ys : List Int) : U8 (xs ++ ys) = List.map (Value.int IntKind.u8) xs ++ List.map (Value.int IntKind.u8) ys := by simp [U8]
theorem u8_rangeF (x : Int) : 0 ≤ IntKind.u8.wrap x ∧ IntKind.u8.wrap x < 256 := by simp [IntKind.wrap, IntKind.signed, IntKind.bits]; omega
theorem specL8data (n : Int) (w : World) (hn : n ≤ 200) :
    Calls Tryd.prog 78 #[.int .i64 1, .int .i64 2, .int .i64 n] w fun e w' => ∃ (u : Value) (ys : List Int), e = .returned u ∧ w'.ownsRow w.heap.size 5 1 u ys.length (U8 ys) ∧ bytesF ys ∧ ys.length = n.toNat ∧ Below w.heap.size w w' := by
  go_enter Tryd.func78, Tryd.ntmps78
  go_wp2
  go_loopw [7, 8] (fun u i wr => ∃ (j : Nat) (ys : List Int), j ≤ n.toNat ∧ i = .int .i64 j ∧ ys.length = j ∧ Hid (wr.ownsRow w.heap.size 5 1 u j (U8 ys)) ∧ Hid (bytesF ys) ∧ Below w.heap.size w wr) (fun _ i _ => n.toNat - (intOf i).toNat)
  case atStart => exact ⟨0, [], by omega, rfl, rfl, World.ownsRow_nil _ _ _ _, (fun x hx => by cases hx), Below.refl _ _⟩
  case round =>
    obtain ⟨j, ys, hj, rfl, hl, HO, HY, B⟩ := hrel
    by_cases hlt : (j : Int) < n
    · have hj2 : j ≤ 200 := by omega
      have hjj : (j : Int) * (j : Int) ≤ 40000 := by
        have h1 : j * j ≤ 40000 := Nat.mul_le_mul hj2 hj2
        rw [← Int.natCast_mul]
        exact Int.ofNat_le.2 h1
      have hj0 : 0 ≤ (j : Int) * (j : Int) := by rw [← Int.natCast_mul]; exact Int.natCast_nonneg _
      have hw : IntKind.i64.wrap ((j : Int) + 1) = (j : Int) + 1 := wr64 (by omega) (by omega)
      have hw2 : IntKind.i64.wrap ((j : Int) * (j : Int)) = (j : Int) * (j : Int) := wr64 (by omega) (by omega)
      have hw3 : IntKind.i64.wrap (45 + (j : Int) * (j : Int)) = 45 + (j : Int) * (j : Int) := wr64 (by omega) (by omega)
      have hy2 := u8_rangeF (45 + (j : Int) * (j : Int))
      obtain ⟨y, hy⟩ : ∃ y, IntKind.u8.wrap (45 + (j : Int) * (j : Int)) = y := ⟨_, rfl⟩
      rw [hy] at hy2
      have HN : Hid (j + 1 ≤ n.toNat) := by unfold Hid; omega
      have HY3 : Hid (bytesF (ys ++ [y])) := fun x hx => by
        rw [List.mem_append] at hx
        rcases hx with h | h
        · exact HY.out x h
        · simp at h; rw [h]; exact hy2
      clear hjj hj0 hj hj2 HY
      go_wp2_with (at_builtin; refine wpl_append_bs rfl _ _ rfl w.heap.size u7 j ys rfl (some ⟨wr.heap.size, 0, none⟩) 1 1 [y] rfl (World.ownsRow.alloc HO.out _) (Bs.one wr y hy2.1 hy2.2) (by have := HN.out; omega) (Nat.le_trans B.size (by simp)) ?_)
      intro v3 w3 O3 g3 _
      have HO3 : Hid (w3.ownsRow w.heap.size 5 1 v3 (j + 1) (U8 (ys ++ [y]))) := by unfold Hid; rw [u8_appF]; exact O3
      have B3 : Below w.heap.size w w3 := (B.alloc B.size _).grown g3 (Nat.le_trans B.size (by simp)) (fun k hk => (World.ownsRow.lt HO.out k hk).1)
      clear O3 g3 HO B hw2 hw3 hy
      go_wp2
      go_roundw
      case rel => exact ⟨j + 1, _, HN.out, by go_num, by rw [List.length_append, hl]; rfl, HO3, HY3, B3⟩
      case measure => have := HN.out; simp [intOf]; omega
    · have hjn : j = n.toNat := by omega
      have HL : Hid (ys.length = n.toNat) := by unfold Hid; omega
      clear hjn hj
      go_wp2
      go_ret
      exact ⟨_, rfl, ys, by rw [hl]; exact HO.out, HY.out, HL.out, B⟩
theorem drawPartOf (a : Option Addr) (n c : Nat) (xs : List Int) (w : World) (h : Bs w a n c xs) (hm : n ≤ 9223372036854775807) :
    Calls Tryd.prog 23 #[.slice a n c] w fun e w' => ∃ (k v : Int) (u : Value) (ys : List Int), e = .returned (.tuple #[.int .i64 k, .int .i64 v, u]) ∧ w'.ownsRow w.heap.size 5 1 u ys.length (U8 ys) ∧ bytesF ys ∧ ys.length ≤ 200 ∧ Below w.heap.size w w' := by
  have HBs : Hid (Bs w a n c xs) := h
  go_enter Tryd.func23, Tryd.ntmps23
  clear h
  go_wp2_with fail
  refine (curNew a n c xs _ HBs.out hm).mono ?_
  rintro e w1 ⟨rfl, hc1, hd1, hs1, hb1⟩
  obtain ⟨p, hp⟩ : ∃ p, p = w.heap.size := ⟨_, rfl⟩
  rw [← hp] at hc1 hd1 ⊢
  have hcode := hd1
  have D : D8 w1 w1 p a n c := ⟨hc1, World.grownBy.refl _ _⟩
  have hp0 := cur_lt hc1
  have HW : Hid (Below w.heap.size w w1) := hb1
  have HP : Hid (w.heap.size ≤ p) := by unfold Hid; omega
  clear hc1 hd1 hs1 hb1 hp HBs
  go_wp2_with fail
  have cl := cells_arr w1 [0, 1, 20, 192, 193] 3
  refine (curPick p a n c xs _ 5 [0, 1, 20, 192, 193] _ (cur_keep D.cu (grown_alloc _ _ none) (by simp)) ((hcode.grown D.gr).grown (grown_alloc _ _ (some p))) rfl (by omega) (by omega) (by have := cur_lt D.cu; omega) (fun j hj => cl j hj)).mono ?_
  rintro e w2 ⟨y, rfl, hm_y, hc, hg⟩
  have hy200 : y ≤ 200 := by simp at hm_y; omega
  replace D := (D.alloc _).draw hc hg
  clear hc hg cl hm_y
  go_wp2_with fail
  refine (curBelow p a n c xs _ _ D.cu (hcode.grown D.gr) (by omega)).mono ?_
  rintro e w3 ⟨x, rfl, h0_x, h1_x, _, hc, hg⟩
  replace h1_x := h1_x (by omega)
  replace D := D.draw hc hg
  clear hc hg
  have hw : IntKind.i64.wrap (x - 1) = x - 1 := wr64 (by omega) (by omega)
  go_wp2_with fail
  have cl := cells_arr w3 [0, 1, 5, 1000, 1001, -1] 3
  refine (curPick p a n c xs _ 6 [0, 1, 5, 1000, 1001, -1] _ (cur_keep D.cu (grown_alloc _ _ none) (by simp)) ((hcode.grown D.gr).grown (grown_alloc _ _ (some p))) rfl (by omega) (by omega) (by have := cur_lt D.cu; omega) (fun j hj => cl j hj)).mono ?_
  rintro e w4 ⟨z, rfl, _, hc, hg⟩
  replace D := (D.alloc _).draw hc hg
  have BB := HW.out.grown D.gr HW.out.size (fun k hk => by injection hk with hk; have := HP.out; omega)
  clear hc hg cl D
  go_wp2_with fail
  refine (specL8data y _ hy200).mono ?_
  rintro e w5 ⟨u, ys, rfl, o, hyb, hyl, hb⟩
  obtain ⟨ua, uc, rfl, _, _⟩ := Bs.own o hyb
  have B2 := BB.trans (hb.mono BB.size)
  have HO : Hid (w5.ownsRow w.heap.size 5 1 (.slice ua ys.length uc) ys.length (U8 ys)) := own_lowK o BB.size
  have HYB : Hid (bytesF ys) := hyb
  have HYL : Hid (ys.length ≤ 200) := by unfold Hid; omega
  clear o hb BB hyb hyl
  go_wp2
  go_ret3
  exact ⟨_, _, _, ys, rfl, HO.out, HYB.out, HYL.out, B2⟩
end Go.Proofs.YtofflhhlacdgfaaDoor

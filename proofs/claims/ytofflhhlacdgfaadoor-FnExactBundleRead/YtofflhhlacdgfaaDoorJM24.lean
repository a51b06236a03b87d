/-
  What is proved here: the contract of the program's listOk over needs: it answers whether there are not too many, each is ok, and each is below the one behind it; what the laws' eqRec, eqBoot and both sides' small tests of numbers answer; what the program's BundleOk answers.
-/
import Derived.Test.YtofflhhlacdgfaaDoorJM23
import Derived.Test.YtofflhhlacdgfaaDoorJM20
import Derived.Test.YtofflhhlacdgfaaDoorJM16
import Derived.Deep.CutRange
import Derived.Deep.Slices
namespace Go.Proofs.YtofflhhlacdgfaaDoor
open Go.RowKit
set_option maxRecDepth 100000
set_option maxHeartbeats 8000000

theorem implListOkNeed (a : Option Addr) (n c : Nat) (most : Int) (hm : most ≤ 1000) (v : Nat → L4) (P : Nat → Bool) (C : Nat → Int) (w : World) (hl : Rw4 w a n v) (hS : ∀ i, i < n → ∃ ki kr kv kw, v i = (⟨.int .i64 ki, .int .i64 kr, .int .i64 kv, .int .i64 kw⟩ : L4))
    (hP : ∀ i, i < n → ∀ W, Below w.heap.size w W → Calls Tryd.prog 60 #[.agg #[(v i).a, (v i).b, (v i).c, (v i).d]] W fun e w' => e = .returned (.bool (P i)) ∧ Below W.heap.size W w')
    (hC : ∀ i, i + 1 < n → ∀ W, Below w.heap.size w W → Calls Tryd.prog 61 #[.agg #[(v i).a, (v i).b, (v i).c, (v i).d], .agg #[(v (i + 1)).a, (v (i + 1)).b, (v (i + 1)).c, (v (i + 1)).d]] W fun e w' => e = .returned (.int .i64 (C i)) ∧ Below W.heap.size W w') :
    Calls Tryd.prog 59 #[.slice a n c, .int .i64 most, .func (.func 60) #[] #[], .func (.func 61) #[] #[]] w fun e w' => e = .returned (.bool (lstOk n most P C)) ∧ Below w.heap.size w w' := by
  obtain ⟨R, hR, HT, HF⟩ := lstOk_dec n most P C
  rw [hR]
  clear hR
  have HPP : Hid _ := hP
  have HCC : Hid _ := hC
  clear hP hC
  go_enter Tryd.func59, Tryd.ntmps59
  by_cases h8 : most < (n : Int)
  case pos =>
    have HNo : Hid (R = false) := HF.out (fun h => by have := h.1; omega)
    go_wp2
    go_ret
    exact ⟨by rw [HNo.out]; rfl, Below.refl _ _⟩
  have HKs : Hid (Rw4 w a n v) := hl
  clear hl
  go_wp2
  go_loopw [17] (fun i wr => ∃ k : Nat, k ≤ n ∧ i = .int .i64 k ∧ Hid (∀ j, j < k → P j = true ∧ (0 < j → C (j - 1) < 0)) ∧ Below w.heap.size w wr) (fun i _ => n - (intOf i).toNat)
  case atStart => exact ⟨0, by omega, rfl, (fun j hj => by omega), Below.refl _ _⟩
  case round =>
    obtain ⟨k, hk, rfl, HN, Bl⟩ := hrel
    by_cases hlt : (k : Int) < (n : Int)
    · obtain ⟨b, o, rfl, hbs, hcell⟩ : ∃ b o, a = some ⟨b, o, none⟩ ∧ b < wr.heap.size ∧ ∀ i, i < n → Cell4 wr b (o + i * 4) (v i) := by
        rcases HKs.out.below Bl with hq | hq
        · omega
        · exact hq
      have P0 := hcell k (by omega)
      obtain ⟨p, ep⟩ : ∃ p, p = v k := ⟨_, rfl⟩
      have cP := HPP.out k (by omega)
      obtain ⟨ki, kr, kv, kw, es⟩ := hS k (by omega)
      rw [← ep] at es
      rw [← ep] at P0 cP
      subst es
      obtain ⟨q1, q2, q3, q4⟩ := P0
      simp only [] at q1 q2 q3 q4 cP
      have HE : Hid _ := ep
      have hk0 : (0 : Int) ≤ (k : Int) := by omega
      clear ep
      go_upto_region 6 with fail
      obtain ⟨Z, hZ⟩ : ∃ Z, Z = wr.alloc (.cells #[.int .i64 ki, .int .i64 kr, .int .i64 kv, .int .i64 kw] 41) := ⟨_, rfl⟩
      have bV : Below wr.heap.size wr Z := by rw [hZ]; exact (Below.refl _ _).alloc (Nat.le_refl _) _
      have D : Arr Z wr.heap.size 41 [.int .i64 ki, .int .i64 kr, .int .i64 kv, .int .i64 kw] := by rw [hZ]; exact Arr.new _ _ _
      rw [← hZ]
      obtain ⟨X, hX⟩ : ∃ X, X = wr.heap.size := ⟨_, rfl⟩
      rw [← hX] at D ⊢
      replace hcell := fun i hi => (hcell i hi).below hbs bV
      replace hbs := Nat.lt_of_lt_of_le hbs bV.size
      replace Bl := Bl.trans (bV.mono Bl.size)
      replace cP := fun W (h : Below Z.heap.size Z W) => cP W (Bl.trans (h.mono Bl.size))
      have CP : Hid _ := cP
      clear hZ hX bV q1 q2 q3 q4 cP
      have d0 := D.cell 0
      have d1 := D.cell 1
      have d2 := D.cell 2
      have d3 := D.cell 3
      simp at d0 d1 d2 d3
      obtain ⟨pk, epk⟩ : ∃ q, q = P k := ⟨_, rfl⟩
      rw [← epk] at CP
      have HPK : Hid _ := epk
      clear epk
      cases pk with
      | false =>
        have HNo : Hid (R = false) := HF.out (fun h => by
          have h2 := (h.2 k (by omega)).1
          rw [← HPK.out] at h2
          cases h2)
        try simp only [Act.put]
        refine tameG [kc 22 (.func (.func 60) #[] #[]), kc 23 (.agg #[.int .i64 ki, .int .i64 kr, .int .i64 kv, .int .i64 kw]), kc 24 (.bool false), kc 25 (.bool true), kc 26 (.bool true), kc 27 (undef), kc 28 (undef), kc 29 (undef), kc 30 (undef), kc 31 (undef), kc 32 (undef), kc 33 (undef), kc 34 (undef), kc 35 (undef), kc 36 (undef), kc 37 (undef), kc 38 (undef), kc 39 (undef), kc 40 (.bool true)] 19 (by kernel_rfl) (by kernel_rfl) (by kernel_rfl) (by repeat' first | exact trivial | apply kc_keeps | constructor) 0 (by kernel_rfl) (fun vv ll hh yW bW => ?_) (fun vv ll hh yW bW F ivh aph => ?_)
        · have x0 := (bW.cell (p := ⟨X, 0, none⟩) D.lt).trans d0
          have x1 := (bW.cell (p := ⟨X, 1, none⟩) D.lt).trans d1
          have x2 := (bW.cell (p := ⟨X, 2, none⟩) D.lt).trans d2
          have x3 := (bW.cell (p := ⟨X, 3, none⟩) D.lt).trans d3
          refine ⟨og (tp (by kernel_rfl)) (by kernel_rfl), og (tp ?_) (by kernel_rfl), og (tc (CP.out yW bW) (by kernel_rfl)) (by kernel_rfl), og (tp (by kernel_rfl)) (by kernel_rfl), og (tp (by kernel_rfl)) (by kernel_rfl), ou (by kernel_rfl), ou (by kernel_rfl), ou (by kernel_rfl), ou (by kernel_rfl), ou (by kernel_rfl), ou (by kernel_rfl), ou (by kernel_rfl), ou (by kernel_rfl), ou (by kernel_rfl), ou (by kernel_rfl), ou (by kernel_rfl), ou (by kernel_rfl), ou (by kernel_rfl), og (tp (by kernel_rfl)) (by kernel_rfl), trivial⟩
          all_goals
            simp only [fillK, putT, List.setIfInBounds_toArray, List.set_cons_zero, List.set_cons_succ]
            unfold execOp
            go_simp
            try rfl
        clear F ivh aph
        obtain ⟨y, hy⟩ : ∃ z, z = yW := ⟨_, rfl⟩
        rw [← hy] at bW ⊢
        clear hy
        refine wpAny_done (by kernel_rfl) ?_ _
        simp only [fillK, putT, List.setIfInBounds_toArray, List.set_cons_zero, List.set_cons_succ]
        go_wp2
        go_ret
        exact ⟨by rw [HNo.out]; rfl, Bl.trans (bW.mono Bl.size)⟩
      | true =>
        by_cases hz : 0 < k
        · have hkd : (0 : Int) < (k : Int) := by omega
          have hk1 : (1 : Int) ≤ (k : Int) := by omega
          have hk2 : (k : Int) - 1 < (n : Int) := by omega
          have hw1 : IntKind.i64.wrap ((k : Int) - 1) = (k : Int) - 1 := by rw [IntKind.wrap_i64]; omega
          have ht1 : ((k : Int) - 1).toNat = k - 1 := by omega
          have P' := hcell (k - 1) (by omega)
          have cC := HCC.out (k - 1) (by omega)
          rw [show k - 1 + 1 = k by omega, ← HE.out] at cC
          obtain ⟨q, eq⟩ : ∃ q, q = v (k - 1) := ⟨_, rfl⟩
          rw [← eq] at P' cC
          obtain ⟨ki', kr', kv', kw', es⟩ := hS (k - 1) (by omega)
          rw [← eq] at es
          clear eq
          subst es
          obtain ⟨r0, r1, r2, r3⟩ := P'
          simp only [] at r0 r1 r2 r3 cC
          replace cC := fun W (h : Below Z.heap.size Z W) => cC W (Bl.trans (h.mono Bl.size))
          obtain ⟨cv, ecv⟩ : ∃ z, z = C (k - 1) := ⟨_, rfl⟩
          rw [← ecv] at cC
          have CC : Hid _ := cC
          have HCV : Hid _ := ecv
          clear cC ecv hcell
          by_cases hzk : cv < 0
          · have hzn : ¬ 0 ≤ cv := by omega
            have HZK : Hid _ := hzk
            try simp only [Act.put]
            refine tameG [kc 22 (.func (.func 60) #[] #[]), kc 23 (.agg #[.int .i64 ki, .int .i64 kr, .int .i64 kv, .int .i64 kw]), kc 24 (.bool true), kc 25 (.bool false), kc 26 (.bool false), kc 27 (.int .i64 (k : Int)), kc 28 (.bool true), kc 29 (.bool true), kc 30 (.func (.func 61) #[] #[]), kc 31 (.slice (some ⟨b, o, none⟩) n c), kc 32 (.int .i64 (k : Int)), kc 33 (.int .i64 ((k : Int) - 1)), kc 34 (.pointer (some ⟨b, o + (k - 1) * 4, none⟩)), kc 35 (.agg #[.int .i64 ki', .int .i64 kr', .int .i64 kv', .int .i64 kw']), kc 36 (.agg #[.int .i64 ki, .int .i64 kr, .int .i64 kv, .int .i64 kw]), kc 37 (.int .i64 cv), kc 38 (.bool false), kc 39 (.bool false), kc 40 (.bool false)] 19 (by kernel_rfl) (by kernel_rfl) (by kernel_rfl) (by repeat' first | exact trivial | apply kc_keeps | constructor) 0 (by kernel_rfl) (fun vv ll hh yW bW => ?_) (fun vv ll hh yW bW F ivh aph => ?_)
            · have x0 := (bW.cell (p := ⟨X, 0, none⟩) D.lt).trans d0
              have x1 := (bW.cell (p := ⟨X, 1, none⟩) D.lt).trans d1
              have x2 := (bW.cell (p := ⟨X, 2, none⟩) D.lt).trans d2
              have x3 := (bW.cell (p := ⟨X, 3, none⟩) D.lt).trans d3
              have y0 := (bW.cell (p := ⟨b, _, none⟩) hbs).trans r0
              have y1 := (bW.cell (p := ⟨b, _, none⟩) hbs).trans r1
              have y2 := (bW.cell (p := ⟨b, _, none⟩) hbs).trans r2
              have y3 := (bW.cell (p := ⟨b, _, none⟩) hbs).trans r3
              refine ⟨og (tp (by kernel_rfl)) (by kernel_rfl), og (tp ?_) (by kernel_rfl), og (tc (CP.out yW bW) (by kernel_rfl)) (by kernel_rfl), og (tp (by kernel_rfl)) (by kernel_rfl), og (tp (by kernel_rfl)) (by kernel_rfl), og (tp (by kernel_rfl)) (by kernel_rfl), og (tp ?_) (by kernel_rfl), og (tp (by kernel_rfl)) (by kernel_rfl), og (tp (by kernel_rfl)) (by kernel_rfl), og (tp (by kernel_rfl)) (by kernel_rfl), og (tp (by kernel_rfl)) (by kernel_rfl), og (tp ?_) (by kernel_rfl), og (tp ?_) (by kernel_rfl), og (tp ?_) (by kernel_rfl), og (tp ?_) (by kernel_rfl), og (tc (CC.out yW bW) (by kernel_rfl)) (by kernel_rfl), og (tp ?_) (by kernel_rfl), og (tp (by kernel_rfl)) (by kernel_rfl), og (tp (by kernel_rfl)) (by kernel_rfl), trivial⟩
              all_goals
                simp only [fillK, putT, List.setIfInBounds_toArray, List.set_cons_zero, List.set_cons_succ]
                unfold execOp
                go_simp
                try rfl
            clear F ivh aph
            obtain ⟨y, hy⟩ : ∃ z, z = yW := ⟨_, rfl⟩
            rw [← hy] at bW ⊢
            clear hy
            refine wpAny_done (by kernel_rfl) ?_ _
            simp only [fillK, putT, List.setIfInBounds_toArray, List.set_cons_zero, List.set_cons_succ]
            replace Bl := Bl.trans (bW.mono Bl.size)
            have HN2 : Hid (∀ j, j < k + 1 → P j = true ∧ (0 < j → C (j - 1) < 0)) := by
              unfold Hid; intro j hj
              by_cases hjk : j = k
              · subst hjk
                exact ⟨HPK.out.symm, fun _ => by rw [← HCV.out]; exact HZK.out⟩
              · exact HN.out j (by omega)
            go_wp2
            go_roundw
            case rel => exact ⟨k + 1, by omega, by go_num, HN2, Bl⟩
            case measure => simp [intOf]; omega
          · have hzn : 0 ≤ cv := by omega
            have HNo : Hid (R = false) := HF.out (fun h => by
              have h2 := (h.2 k (by omega)).2 hz
              rw [← HCV.out] at h2
              omega)
            try simp only [Act.put]
            refine tameG [kc 22 (.func (.func 60) #[] #[]), kc 23 (.agg #[.int .i64 ki, .int .i64 kr, .int .i64 kv, .int .i64 kw]), kc 24 (.bool true), kc 25 (.bool false), kc 26 (.bool false), kc 27 (.int .i64 (k : Int)), kc 28 (.bool true), kc 29 (.bool true), kc 30 (.func (.func 61) #[] #[]), kc 31 (.slice (some ⟨b, o, none⟩) n c), kc 32 (.int .i64 (k : Int)), kc 33 (.int .i64 ((k : Int) - 1)), kc 34 (.pointer (some ⟨b, o + (k - 1) * 4, none⟩)), kc 35 (.agg #[.int .i64 ki', .int .i64 kr', .int .i64 kv', .int .i64 kw']), kc 36 (.agg #[.int .i64 ki, .int .i64 kr, .int .i64 kv, .int .i64 kw]), kc 37 (.int .i64 cv), kc 38 (.bool true), kc 39 (.bool true), kc 40 (.bool true)] 19 (by kernel_rfl) (by kernel_rfl) (by kernel_rfl) (by repeat' first | exact trivial | apply kc_keeps | constructor) 0 (by kernel_rfl) (fun vv ll hh yW bW => ?_) (fun vv ll hh yW bW F ivh aph => ?_)
            · have x0 := (bW.cell (p := ⟨X, 0, none⟩) D.lt).trans d0
              have x1 := (bW.cell (p := ⟨X, 1, none⟩) D.lt).trans d1
              have x2 := (bW.cell (p := ⟨X, 2, none⟩) D.lt).trans d2
              have x3 := (bW.cell (p := ⟨X, 3, none⟩) D.lt).trans d3
              have y0 := (bW.cell (p := ⟨b, _, none⟩) hbs).trans r0
              have y1 := (bW.cell (p := ⟨b, _, none⟩) hbs).trans r1
              have y2 := (bW.cell (p := ⟨b, _, none⟩) hbs).trans r2
              have y3 := (bW.cell (p := ⟨b, _, none⟩) hbs).trans r3
              refine ⟨og (tp (by kernel_rfl)) (by kernel_rfl), og (tp ?_) (by kernel_rfl), og (tc (CP.out yW bW) (by kernel_rfl)) (by kernel_rfl), og (tp (by kernel_rfl)) (by kernel_rfl), og (tp (by kernel_rfl)) (by kernel_rfl), og (tp (by kernel_rfl)) (by kernel_rfl), og (tp ?_) (by kernel_rfl), og (tp (by kernel_rfl)) (by kernel_rfl), og (tp (by kernel_rfl)) (by kernel_rfl), og (tp (by kernel_rfl)) (by kernel_rfl), og (tp (by kernel_rfl)) (by kernel_rfl), og (tp ?_) (by kernel_rfl), og (tp ?_) (by kernel_rfl), og (tp ?_) (by kernel_rfl), og (tp ?_) (by kernel_rfl), og (tc (CC.out yW bW) (by kernel_rfl)) (by kernel_rfl), og (tp ?_) (by kernel_rfl), og (tp (by kernel_rfl)) (by kernel_rfl), og (tp (by kernel_rfl)) (by kernel_rfl), trivial⟩
              all_goals
                simp only [fillK, putT, List.setIfInBounds_toArray, List.set_cons_zero, List.set_cons_succ]
                unfold execOp
                go_simp
                try rfl
            clear F ivh aph
            obtain ⟨y, hy⟩ : ∃ z, z = yW := ⟨_, rfl⟩
            rw [← hy] at bW ⊢
            clear hy
            refine wpAny_done (by kernel_rfl) ?_ _
            simp only [fillK, putT, List.setIfInBounds_toArray, List.set_cons_zero, List.set_cons_succ]
            go_wp2
            go_ret
            exact ⟨by rw [HNo.out]; rfl, Bl.trans (bW.mono Bl.size)⟩
        · have HZ0 : Hid (k = 0) := by unfold Hid; omega
          have hkd : (0 < k) = False := by simp; omega
          clear hcell hz
          try simp only [Act.put]
          refine tameG [kc 22 (.func (.func 60) #[] #[]), kc 23 (.agg #[.int .i64 ki, .int .i64 kr, .int .i64 kv, .int .i64 kw]), kc 24 (.bool true), kc 25 (.bool false), kc 26 (.bool false), kc 27 (.int .i64 (k : Int)), kc 28 (.bool false), kc 29 (.bool false), kc 30 (undef), kc 31 (undef), kc 32 (undef), kc 33 (undef), kc 34 (undef), kc 35 (undef), kc 36 (undef), kc 37 (undef), kc 38 (undef), kc 39 (.bool false), kc 40 (.bool false)] 19 (by kernel_rfl) (by kernel_rfl) (by kernel_rfl) (by repeat' first | exact trivial | apply kc_keeps | constructor) 0 (by kernel_rfl) (fun vv ll hh yW bW => ?_) (fun vv ll hh yW bW F ivh aph => ?_)
          · have x0 := (bW.cell (p := ⟨X, 0, none⟩) D.lt).trans d0
            have x1 := (bW.cell (p := ⟨X, 1, none⟩) D.lt).trans d1
            have x2 := (bW.cell (p := ⟨X, 2, none⟩) D.lt).trans d2
            have x3 := (bW.cell (p := ⟨X, 3, none⟩) D.lt).trans d3
            refine ⟨og (tp (by kernel_rfl)) (by kernel_rfl), og (tp ?_) (by kernel_rfl), og (tc (CP.out yW bW) (by kernel_rfl)) (by kernel_rfl), og (tp (by kernel_rfl)) (by kernel_rfl), og (tp (by kernel_rfl)) (by kernel_rfl), og (tp (by kernel_rfl)) (by kernel_rfl), og (tp ?_) (by kernel_rfl), og (tp (by kernel_rfl)) (by kernel_rfl), ou (by kernel_rfl), ou (by kernel_rfl), ou (by kernel_rfl), ou (by kernel_rfl), ou (by kernel_rfl), ou (by kernel_rfl), ou (by kernel_rfl), ou (by kernel_rfl), ou (by kernel_rfl), og (tp (by kernel_rfl)) (by kernel_rfl), og (tp (by kernel_rfl)) (by kernel_rfl), trivial⟩
            all_goals
              simp only [fillK, putT, List.setIfInBounds_toArray, List.set_cons_zero, List.set_cons_succ]
              unfold execOp
              go_simp
              try rfl
          clear F ivh aph
          obtain ⟨y, hy⟩ : ∃ z, z = yW := ⟨_, rfl⟩
          rw [← hy] at bW ⊢
          clear hy
          refine wpAny_done (by kernel_rfl) ?_ _
          simp only [fillK, putT, List.setIfInBounds_toArray, List.set_cons_zero, List.set_cons_succ]
          replace Bl := Bl.trans (bW.mono Bl.size)
          have HN2 : Hid (∀ j, j < k + 1 → P j = true ∧ (0 < j → C (j - 1) < 0)) := by
            unfold Hid; intro j hj
            by_cases hjk : j = k
            · subst hjk
              exact ⟨HPK.out.symm, fun h => by have := HZ0.out; omega⟩
            · exact HN.out j (by omega)
          go_wp2
          go_roundw
          case rel => exact ⟨k + 1, by omega, by go_num, HN2, Bl⟩
          case measure => simp [intOf]; omega
    · have HRT : Hid (R = true) := HT.out ⟨by omega, fun i hi => HN.out i (by omega)⟩
      go_wp2
      go_ret
      exact ⟨by rw [HRT.out]; rfl, Bl⟩
end Go.Proofs.YtofflhhlacdgfaaDoor
namespace Go.Proofs.YtofflhhlacdgfaaDoor
open Go.RowKit
set_option maxRecDepth 100000
set_option maxHeartbeats 1000000

theorem spec8ver (n : Int) (w : World) : Calls Tryd.prog 50 #[.int .i64 n] w fun e w' => e = .returned (.bool (decide (0 ≤ n ∧ n ≤ 1000))) ∧ w' = w := by
  obtain ⟨R, hR, HT, HF⟩ := by_dec0 (0 ≤ n ∧ n ≤ 1000)
  rw [hR]
  clear hR
  by_cases h1 : 0 ≤ n
  · by_cases h2 : n ≤ 1000
    all_goals
      go_enter Tryd.func50, Tryd.ntmps50
      go_wp2
      go_ret
      exact ⟨by first | (rw [HF.out (by omega)]; rfl) | (rw [HT.out (by omega)]; rfl), rfl⟩
  · go_enter Tryd.func50, Tryd.ntmps50
    go_wp2
    go_ret
    exact ⟨by first | (rw [HF.out (by omega)]; rfl) | (rw [HT.out (by omega)]; rfl), rfl⟩
theorem implIsVer (n : Int) (w : World) : Calls Tryd.prog 54 #[.int .i64 n] w fun e w' => e = .returned (.bool (decide (0 ≤ n ∧ n ≤ 1000))) ∧ w' = w := by
  obtain ⟨R, hR⟩ : ∃ R, decide (0 ≤ n ∧ n ≤ 1000) = R := ⟨_, rfl⟩
  rw [hR]
  have HR : Hid _ := hR
  clear hR
  go_enter Tryd.func54, Tryd.ntmps54
  go_wp2_with fail
  refine (implIsIn n 0 1000 _).mono ?_
  rintro e w1 ⟨rfl, hw⟩
  rw [hw, HR.out]
  go_wp2
  go_ret
  exact ⟨rfl, rfl⟩
theorem implIsNum (n : Int) (w : World) : Calls Tryd.prog 55 #[.int .i64 n] w fun e w' => e = .returned (.bool (decide (1 ≤ n ∧ n ≤ 1000))) ∧ w' = w := by
  obtain ⟨R, hR⟩ : ∃ R, decide (1 ≤ n ∧ n ≤ 1000) = R := ⟨_, rfl⟩
  rw [hR]
  have HR : Hid _ := hR
  clear hR
  go_enter Tryd.func55, Tryd.ntmps55
  go_wp2_with fail
  refine (implIsIn n 1 1000 _).mono ?_
  rintro e w1 ⟨rfl, hw⟩
  rw [hw, HR.out]
  go_wp2
  go_ret
  exact ⟨rfl, rfl⟩
end Go.Proofs.YtofflhhlacdgfaaDoor
namespace Go.Proofs.YtofflhhlacdgfaaDoor
open Go.RowKit
set_option maxRecDepth 100000
set_option maxHeartbeats 4000000

theorem Ps.row {w : World} {a : Option Addr} {n c : Nat} {ps : List PartM} (h : Ps w a n c ps) : ∃ f : Nat → Option Addr × Nat, Rw4 w a n (fun i => part4 (ps.getD i pz) (f i).1 (f i).2) := by
  obtain ⟨h0, h1, h2, h3⟩ := h
  rcases h3 with h3 | ⟨b, o, rfl, hb, hc⟩
  · exact ⟨fun _ => (none, 0), .inl h3⟩
  · have hE : ∀ i, i < n → ∃ q : Option Addr × Nat, PartAt w b (o + i * 4) (ps.getD i pz) q.1 q.2 := fun i hi => by
      obtain ⟨ha, hc, h⟩ := hc i hi
      exact ⟨(ha, hc), h⟩
    haveI : Inhabited (Option Addr × Nat) := ⟨(none, 0)⟩
    obtain ⟨f, hF⟩ := Go.Deep.choose_lt (α := Option Addr × Nat) hE
    exact ⟨f, .inr ⟨b, o, rfl, hb, fun i hi => ⟨(hF i hi).k, (hF i hi).v, (hF i hi).s, (hF i hi).h⟩⟩⟩
abbrev need4 (x : NeedM) : L4 := ⟨.int .i64 x.o, .int .i64 x.f, .int .i64 x.t, .int .i64 x.k⟩
theorem Ns.row {w : World} {a : Option Addr} {n c : Nat} {ns : List NeedM} (h : Ns w a n c ns) : Rw4 w a n (fun i => need4 (ns.getD i nz)) := by
  obtain ⟨h0, h1, h2, h3⟩ := h
  rcases h3 with h3 | ⟨b, o, rfl, hb, hc⟩
  · exact .inl h3
  · exact .inr ⟨b, o, rfl, hb, fun i hi => ⟨(hc i hi).o, (hc i hi).f, (hc i hi).t, (hc i hi).k⟩⟩
abbrev pP (ps : List PartM) (i : Nat) : Bool := decide (partOk (ps.getD i pz).k (ps.getD i pz).v (ps.getD i pz).s (ps.getD i pz).h.length)
abbrev pC (ps : List PartM) (i : Nat) : Int := cmpI (ps.getD i pz).k (ps.getD (i + 1) pz).k
abbrev nP (ns : List NeedM) (i : Nat) : Bool := decide (needOk (ns.getD i nz).o (ns.getD i nz).f (ns.getD i nz).t (ns.getD i nz).k)
abbrev nC (ns : List NeedM) (i : Nat) : Int := ndC (ns.getD i nz).o (ns.getD i nz).f (ns.getD i nz).t (ns.getD i nz).k (ns.getD (i + 1) nz).o (ns.getD (i + 1) nz).f (ns.getD (i + 1) nz).t (ns.getD (i + 1) nz).k
theorem pLst {n : Nat} {ps : List PartM} (h : ps.length = n) : lstOk n 4 (pP ps) (pC ps) = true ↔ ps.length ≤ 4 ∧ ∀ i, i < ps.length → pOkAt ps i := by
  subst h
  unfold lstOk
  rw [decide_eq_true_iff]
  constructor
  · rintro ⟨h1, h2⟩
    refine ⟨by omega, fun j hj => ?_⟩
    obtain ⟨a, b⟩ := h2 j hj
    refine ⟨of_decide_eq_true a, fun hp => ?_⟩
    have := b hp
    rw [cmpI_neg, show j - 1 + 1 = j by omega] at this
    exact this
  · rintro ⟨h1, h2⟩
    refine ⟨by omega, fun j hj => ?_⟩
    obtain ⟨a, b⟩ := h2 j hj
    refine ⟨decide_eq_true a, fun hp => ?_⟩
    rw [cmpI_neg, show j - 1 + 1 = j by omega]
    exact b hp
theorem nLst {n : Nat} {ns : List NeedM} (h : ns.length = n) : lstOk n 8 (nP ns) (nC ns) = true ↔ ns.length ≤ 8 ∧ ∀ i, i < ns.length → nOkAt ns i := by
  subst h
  unfold lstOk
  rw [decide_eq_true_iff]
  constructor
  · rintro ⟨h1, h2⟩
    refine ⟨by omega, fun j hj => ?_⟩
    obtain ⟨a, b⟩ := h2 j hj
    refine ⟨of_decide_eq_true a, fun hp => ?_⟩
    have := b hp
    rw [ndC_neg, show j - 1 + 1 = j by omega] at this
    exact this
  · rintro ⟨h1, h2⟩
    refine ⟨by omega, fun j hj => ?_⟩
    obtain ⟨a, b⟩ := h2 j hj
    refine ⟨decide_eq_true a, fun hp => ?_⟩
    rw [ndC_neg, show j - 1 + 1 = j by omega]
    exact b hp
theorem implBundleOk (pa : Option Addr) (pn pc : Nat) (na : Option Addr) (nn nc : Nat) (B : BunM) (w : World) (hp : Ps w pa pn pc B.ps) (hn : Ns w na nn nc B.ns) :
    Calls Tryd.prog 13 #[.agg #[.int .i64 B.d, .int .i64 B.n, .int .i64 B.f, .slice pa pn pc, .slice na nn nc]] w fun e w' => e = .returned (.bool (bOk B)) ∧ Below w.heap.size w w' := by
  obtain ⟨W, hW⟩ : ∃ W, W = w.alloc (.cells #[.int .i64 B.d, .int .i64 B.n, .int .i64 B.f, .slice pa pn pc, .slice na nn nc] 26) := ⟨_, rfl⟩
  have A : Arr W w.heap.size 26 [.int .i64 B.d, .int .i64 B.n, .int .i64 B.f, .slice pa pn pc, .slice na nn nc] := by rw [hW]; exact Arr.new _ _ _
  have Bl : Below w.heap.size w W := by rw [hW]; exact (Below.refl _ _).alloc (Nat.le_refl _) _
  have lp := hp.2.1
  have ln := hn.2.1
  obtain ⟨R, hR, HT, HF⟩ := bOk_dec B
  rw [hR]
  clear hR
  have CP : Hid (∀ Z, Below w.heap.size w Z → Calls Tryd.prog 56 #[.slice pa pn pc, .int .i64 4, .func (.func 57) #[] #[], .func (.func 58) #[] #[]] Z fun e w' => e = .returned (.bool (lstOk pn 4 (pP B.ps) (pC B.ps))) ∧ Below Z.heap.size Z w') := fun Z hZ => by
    obtain ⟨f, hr⟩ := (hp.below hZ).row
    exact implListOkPart pa pn pc 4 (by omega) _ _ _ Z hr (fun i hi => ⟨_, _, _, _, _, _, rfl⟩) (fun i hi W hW => implPartOk _ _ _ _ _ _ W) (fun i hi W hW => implComparePart _ _ _ _ _ _ _ _ _ _ _ _ W)
  have CN : Hid (∀ Z, Below w.heap.size w Z → Calls Tryd.prog 59 #[.slice na nn nc, .int .i64 8, .func (.func 60) #[] #[], .func (.func 61) #[] #[]] Z fun e w' => e = .returned (.bool (lstOk nn 8 (nP B.ns) (nC B.ns))) ∧ Below Z.heap.size Z w') := fun Z hZ =>
    implListOkNeed na nn nc 8 (by omega) _ _ _ Z (hn.below hZ).row (fun i hi => ⟨_, _, _, _, rfl⟩) (fun i hi W hW => implNeedOk _ _ _ _ W) (fun i hi W hW => implCompareNeed _ _ _ _ _ _ _ _ W)
  have LP := pLst lp
  have LN := nLst ln
  obtain ⟨qp, hqp⟩ : ∃ q, q = lstOk pn 4 (pP B.ps) (pC B.ps) := ⟨_, rfl⟩
  obtain ⟨qn, hqn⟩ : ∃ q, q = lstOk nn 8 (nP B.ns) (nC B.ns) := ⟨_, rfl⟩
  rw [← hqp] at CP LP
  rw [← hqn] at CN LN
  clear hqp hqn hp hn
  have HT2 : Hid ((0 ≤ B.d ∧ B.d ≤ 1000) → (1 ≤ B.n ∧ B.n ≤ 1000) → (0 ≤ B.f ∧ B.f ≤ 1000) → 0 < pn → qp = true → qn = true → R = true) := fun h1 h2 h3 h4 h5 h6 => HT.out ⟨⟨h1, h2, h3, ⟨by omega, (LP.1 h5).1⟩, (LN.1 h6).1⟩, (LP.1 h5).2, (LN.1 h6).2⟩
  have HF1 : Hid (¬ (0 ≤ B.d ∧ B.d ≤ 1000) → R = false) := fun h => HF.out fun g => h g.1.1
  have HF2 : Hid (¬ (1 ≤ B.n ∧ B.n ≤ 1000) → R = false) := fun h => HF.out fun g => h g.1.2.1
  have HF3 : Hid (¬ (0 ≤ B.f ∧ B.f ≤ 1000) → R = false) := fun h => HF.out fun g => h g.1.2.2.1
  have HF4 : Hid (¬ 0 < pn → R = false) := fun h => HF.out fun g => by have := g.1.2.2.2.1; omega
  have HF5 : Hid (qp = false → R = false) := fun h => HF.out fun g => by rw [LP.2 ⟨g.1.2.2.2.1.2, g.2.1⟩] at h; cases h
  have HF6 : Hid (qn = false → R = false) := fun h => HF.out fun g => by rw [LN.2 ⟨g.1.2.2.2.2, g.2.2⟩] at h; cases h
  obtain ⟨d, n, f, ps, ns⟩ := B
  simp only [] at *
  clear HT HF LP LN lp ln
  have c0 := A.cell 0
  have c1 := A.cell 1
  have c2 := A.cell 2
  have c3 := A.cell 3
  have c4 := A.cell 4
  simp at c0 c1 c2 c3 c4
  go_enter Tryd.func13, Tryd.ntmps13
  go_upto_region 1 with fail
  rw [← hW]
  clear hW
  go_wp2_with fail
  refine (implIsVersion d _).mono ?_
  rintro e w1 ⟨rfl, hw⟩
  rw [hw]
  clear hw
  by_cases h1 : 0 ≤ d ∧ d ≤ 1000
  case neg =>
    rw [decide_eq_false h1]
    have HN := HF1.out h1
    clear HF1 HF2 HF3 HF4 HF5 HF6 HT2
    go_wp2
    go_ret
    exact ⟨by rw [HN]; rfl, Bl⟩
  rw [decide_eq_true h1]
  go_wp2_with fail
  refine (implIsNum n _).mono ?_
  rintro e w1 ⟨rfl, hw⟩
  rw [hw]
  clear hw
  by_cases h2 : 1 ≤ n ∧ n ≤ 1000
  case neg =>
    rw [decide_eq_false h2]
    have HN := HF2.out h2
    go_wp2
    go_ret
    exact ⟨by rw [HN]; rfl, Bl⟩
  rw [decide_eq_true h2]
  go_wp2_with fail
  refine (implIsVersion f _).mono ?_
  rintro e w1 ⟨rfl, hw⟩
  rw [hw]
  clear hw
  by_cases h3 : 0 ≤ f ∧ f ≤ 1000
  case neg =>
    rw [decide_eq_false h3]
    have HN := HF3.out h3
    go_wp2
    go_ret
    exact ⟨by rw [HN]; rfl, Bl⟩
  rw [decide_eq_true h3]
  by_cases h4 : 0 < (pn : Int)
  case neg =>
    have HN := HF4.out (by omega)
    have g4 : decide (0 < (pn : Int)) = false := decide_eq_false h4
    go_wp2
    go_ret
    exact ⟨by rw [HN]; rfl, Bl⟩
  have HT3 : Hid (qp = true → qn = true → R = true) := HT2.out h1 h2 h3 (by omega)
  clear HT2 HF1 HF2 HF3 HF4 h1 h2 h3
  go_wp2_with fail
  refine Calls.mono (CP.out _ Bl) ?_
  rintro e w1 ⟨rfl, hb⟩
  replace A := A.kept hb
  replace Bl := Bl.trans (hb.mono Bl.size)
  clear hb c0 c1 c2 c3 c4
  have c4 := A.cell 4
  simp at c4
  cases qp with
  | false =>
    have HN := HF5.out (by simp)
    go_wp2
    go_ret
    exact ⟨by rw [HN]; rfl, Bl⟩
  | true =>
    go_wp2_with fail
    refine Calls.mono (CN.out _ Bl) ?_
    rintro e w2 ⟨rfl, hb⟩
    replace Bl := Bl.trans (hb.mono Bl.size)
    clear hb c4
    have HQ : Hid (R = qn) := by
      cases qn with
      | false => exact HF6.out (by simp)
      | true => exact HT3.out (by simp) (by simp)
    clear HF6 HT3 HF5 CP CN
    go_wp2
    go_ret
    exact ⟨by rw [HQ.out]; rfl, Bl⟩
end Go.Proofs.YtofflhhlacdgfaaDoor

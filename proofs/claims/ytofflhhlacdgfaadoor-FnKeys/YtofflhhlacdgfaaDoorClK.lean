/-
  What is proved here: the contract of the program's listOk over keys: it answers whether there are not too many, each is ok, and each is below the one behind it.
-/
import Derived.Test.YtofflhhlacdgfaaDoorLo
namespace Go.Proofs.YtofflhhlacdgfaaDoor
open Go.RowKit
set_option maxRecDepth 100000
set_option maxHeartbeats 8000000

theorem implListOkKey (a : Option Addr) (n c : Nat) (most : Int) (hm : most ≤ 1000) (v : Nat → L4) (P : Nat → Bool) (C : Nat → Int) (w : World) (hl : Rw4 w a n v) (hS : ∀ i, i < n → ∃ ki kr kv ha hn hc, v i = (⟨.int .i64 ki, .int .i64 kr, .bool kv, .slice ha hn hc⟩ : L4))
    (hP : ∀ i, i < n → ∀ W, Below w.heap.size w W → Calls Tryd.prog 86 #[.agg #[(v i).a, (v i).b, (v i).c, (v i).d]] W fun e w' => e = .returned (.bool (P i)) ∧ Below W.heap.size W w')
    (hC : ∀ i, i + 1 < n → ∀ W, Below w.heap.size w W → Calls Tryd.prog 87 #[.agg #[(v i).a, (v i).b, (v i).c, (v i).d], .agg #[(v (i + 1)).a, (v (i + 1)).b, (v (i + 1)).c, (v (i + 1)).d]] W fun e w' => e = .returned (.int .i64 (C i)) ∧ Below W.heap.size W w') :
    Calls Tryd.prog 85 #[.slice a n c, .int .i64 most, .func (.func 86) #[] #[], .func (.func 87) #[] #[]] w fun e w' => e = .returned (.bool (lstOk n most P C)) ∧ Below w.heap.size w w' := by
  obtain ⟨R, hR, HT, HF⟩ := lstOk_dec n most P C
  rw [hR]
  clear hR
  have HPP : Hid _ := hP
  have HCC : Hid _ := hC
  clear hP hC
  go_enter Tryd.func85, Tryd.ntmps85
  by_cases h8 : most < (n : Int)
  case pos =>
    have HNo : Hid (R = false) := HF.out (fun h => by have := h.1; omega)
    go_wp2
    go_ret
    exact ⟨by rw [HNo.out]; rfl, Below.refl _ _⟩
  have HKs : Hid (Rw4 w a n v) := hl
  clear hl
  go_wp2
  go_loopw [17] (fun i wr => ∃ k : Nat, k ≤ n ∧ i = .int .i64 k ∧ Hid (∀ j, j < k → P j = true ∧ (0 < j → C (j - 1) < 0)) ∧ Below w.heap.size w wr) (fun i _ => n - (intOf i).toNat)
  case atStart => exact ⟨0, by omega, rfl, (fun j hj => by omega), Below.refl _ _⟩
  case round =>
    obtain ⟨k, hk, rfl, HN, Bl⟩ := hrel
    by_cases hlt : (k : Int) < (n : Int)
    · obtain ⟨b, o, rfl, hbs, hcell⟩ : ∃ b o, a = some ⟨b, o, none⟩ ∧ b < wr.heap.size ∧ ∀ i, i < n → Cell4 wr b (o + i * 4) (v i) := by
        rcases HKs.out.below Bl with hq | hq
        · omega
        · exact hq
      have P0 := hcell k (by omega)
      obtain ⟨p, ep⟩ : ∃ p, p = v k := ⟨_, rfl⟩
      have cP := HPP.out k (by omega)
      obtain ⟨ki, kr, kv, ha, hn, hc, es⟩ := hS k (by omega)
      rw [← ep] at es
      rw [← ep] at P0 cP
      subst es
      obtain ⟨q1, q2, q3, q4⟩ := P0
      simp only [] at q1 q2 q3 q4 cP
      have HE : Hid _ := ep
      have hk0 : (0 : Int) ≤ (k : Int) := by omega
      clear ep
      go_upto_region 6 with fail
      obtain ⟨Z, hZ⟩ : ∃ Z, Z = wr.alloc (.cells #[.int .i64 ki, .int .i64 kr, .bool kv, .slice ha hn hc] 57) := ⟨_, rfl⟩
      have bV : Below wr.heap.size wr Z := by rw [hZ]; exact (Below.refl _ _).alloc (Nat.le_refl _) _
      have D : Arr Z wr.heap.size 57 [.int .i64 ki, .int .i64 kr, .bool kv, .slice ha hn hc] := by rw [hZ]; exact Arr.new _ _ _
      rw [← hZ]
      obtain ⟨X, hX⟩ : ∃ X, X = wr.heap.size := ⟨_, rfl⟩
      rw [← hX] at D ⊢
      replace hcell := fun i hi => (hcell i hi).below hbs bV
      replace hbs := Nat.lt_of_lt_of_le hbs bV.size
      replace Bl := Bl.trans (bV.mono Bl.size)
      replace cP := fun W (h : Below Z.heap.size Z W) => cP W (Bl.trans (h.mono Bl.size))
      have CP : Hid _ := cP
      clear hZ hX bV q1 q2 q3 q4 cP
      have d0 := D.cell 0
      have d1 := D.cell 1
      have d2 := D.cell 2
      have d3 := D.cell 3
      simp at d0 d1 d2 d3
      obtain ⟨pk, epk⟩ : ∃ q, q = P k := ⟨_, rfl⟩
      rw [← epk] at CP
      have HPK : Hid _ := epk
      clear epk
      cases pk with
      | false =>
        have HNo : Hid (R = false) := HF.out (fun h => by
          have h2 := (h.2 k (by omega)).1
          rw [← HPK.out] at h2
          cases h2)
        try simp only [Act.put]
        refine tameG [kc 22 (.func (.func 86) #[] #[]), kc 23 (.agg #[.int .i64 ki, .int .i64 kr, .bool kv, .slice ha hn hc]), kc 24 (.bool false), kc 25 (.bool true), kc 26 (.bool true), kc 27 (undef), kc 28 (undef), kc 29 (undef), kc 30 (undef), kc 31 (undef), kc 32 (undef), kc 33 (undef), kc 34 (undef), kc 35 (undef), kc 36 (undef), kc 37 (undef), kc 38 (undef), kc 39 (undef), kc 40 (.bool true)] 19 (by kernel_rfl) (by kernel_rfl) (by kernel_rfl) (by repeat' first | exact trivial | apply kc_keeps | constructor) 0 (by kernel_rfl) (fun vv ll hh yW bW => ?_) (fun vv ll hh yW bW F ivh aph => ?_)
        · have x0 := (bW.cell (p := ⟨X, 0, none⟩) D.lt).trans d0
          have x1 := (bW.cell (p := ⟨X, 1, none⟩) D.lt).trans d1
          have x2 := (bW.cell (p := ⟨X, 2, none⟩) D.lt).trans d2
          have x3 := (bW.cell (p := ⟨X, 3, none⟩) D.lt).trans d3
          refine ⟨og (tp (by kernel_rfl)) (by kernel_rfl), og (tp ?_) (by kernel_rfl), og (tc (CP.out yW bW) (by kernel_rfl)) (by kernel_rfl), og (tp (by kernel_rfl)) (by kernel_rfl), og (tp (by kernel_rfl)) (by kernel_rfl), ou (by kernel_rfl), ou (by kernel_rfl), ou (by kernel_rfl), ou (by kernel_rfl), ou (by kernel_rfl), ou (by kernel_rfl), ou (by kernel_rfl), ou (by kernel_rfl), ou (by kernel_rfl), ou (by kernel_rfl), ou (by kernel_rfl), ou (by kernel_rfl), ou (by kernel_rfl), og (tp (by kernel_rfl)) (by kernel_rfl), trivial⟩
          all_goals
            simp only [fillK, putT, List.setIfInBounds_toArray, List.set_cons_zero, List.set_cons_succ]
            unfold execOp
            go_simp
        clear F ivh aph
        obtain ⟨y, hy⟩ : ∃ z, z = yW := ⟨_, rfl⟩
        rw [← hy] at bW ⊢
        clear hy
        refine wpAny_done (by kernel_rfl) ?_ _
        simp only [fillK, putT, List.setIfInBounds_toArray, List.set_cons_zero, List.set_cons_succ]
        go_wp2
        go_ret
        exact ⟨by rw [HNo.out]; rfl, Bl.trans (bW.mono Bl.size)⟩
      | true =>
        by_cases hz : 0 < k
        · have hkd : (0 : Int) < (k : Int) := by omega
          have hk1 : (1 : Int) ≤ (k : Int) := by omega
          have hk2 : (k : Int) - 1 < (n : Int) := by omega
          have hw1 : IntKind.i64.wrap ((k : Int) - 1) = (k : Int) - 1 := by rw [IntKind.wrap_i64]; omega
          have ht1 : ((k : Int) - 1).toNat = k - 1 := by omega
          have P' := hcell (k - 1) (by omega)
          have cC := HCC.out (k - 1) (by omega)
          rw [show k - 1 + 1 = k by omega, ← HE.out] at cC
          obtain ⟨q, eq⟩ : ∃ q, q = v (k - 1) := ⟨_, rfl⟩
          rw [← eq] at P' cC
          obtain ⟨ki', kr', kv', ha', hn', hc', es⟩ := hS (k - 1) (by omega)
          rw [← eq] at es
          clear eq
          subst es
          obtain ⟨r0, r1, r2, r3⟩ := P'
          simp only [] at r0 r1 r2 r3 cC
          replace cC := fun W (h : Below Z.heap.size Z W) => cC W (Bl.trans (h.mono Bl.size))
          obtain ⟨cv, ecv⟩ : ∃ z, z = C (k - 1) := ⟨_, rfl⟩
          rw [← ecv] at cC
          have CC : Hid _ := cC
          have HCV : Hid _ := ecv
          clear cC ecv hcell
          by_cases hzk : cv < 0
          · have hzn : ¬ 0 ≤ cv := by omega
            have HZK : Hid _ := hzk
            try simp only [Act.put]
            refine tameG [kc 22 (.func (.func 86) #[] #[]), kc 23 (.agg #[.int .i64 ki, .int .i64 kr, .bool kv, .slice ha hn hc]), kc 24 (.bool true), kc 25 (.bool false), kc 26 (.bool false), kc 27 (.int .i64 (k : Int)), kc 28 (.bool true), kc 29 (.bool true), kc 30 (.func (.func 87) #[] #[]), kc 31 (.slice (some ⟨b, o, none⟩) n c), kc 32 (.int .i64 (k : Int)), kc 33 (.int .i64 ((k : Int) - 1)), kc 34 (.pointer (some ⟨b, o + (k - 1) * 4, none⟩)), kc 35 (.agg #[.int .i64 ki', .int .i64 kr', .bool kv', .slice ha' hn' hc']), kc 36 (.agg #[.int .i64 ki, .int .i64 kr, .bool kv, .slice ha hn hc]), kc 37 (.int .i64 cv), kc 38 (.bool false), kc 39 (.bool false), kc 40 (.bool false)] 19 (by kernel_rfl) (by kernel_rfl) (by kernel_rfl) (by repeat' first | exact trivial | apply kc_keeps | constructor) 0 (by kernel_rfl) (fun vv ll hh yW bW => ?_) (fun vv ll hh yW bW F ivh aph => ?_)
            · have x0 := (bW.cell (p := ⟨X, 0, none⟩) D.lt).trans d0
              have x1 := (bW.cell (p := ⟨X, 1, none⟩) D.lt).trans d1
              have x2 := (bW.cell (p := ⟨X, 2, none⟩) D.lt).trans d2
              have x3 := (bW.cell (p := ⟨X, 3, none⟩) D.lt).trans d3
              have y0 := (bW.cell (p := ⟨b, _, none⟩) hbs).trans r0
              have y1 := (bW.cell (p := ⟨b, _, none⟩) hbs).trans r1
              have y2 := (bW.cell (p := ⟨b, _, none⟩) hbs).trans r2
              have y3 := (bW.cell (p := ⟨b, _, none⟩) hbs).trans r3
              refine ⟨og (tp (by kernel_rfl)) (by kernel_rfl), og (tp ?_) (by kernel_rfl), og (tc (CP.out yW bW) (by kernel_rfl)) (by kernel_rfl), og (tp (by kernel_rfl)) (by kernel_rfl), og (tp (by kernel_rfl)) (by kernel_rfl), og (tp (by kernel_rfl)) (by kernel_rfl), og (tp ?_) (by kernel_rfl), og (tp (by kernel_rfl)) (by kernel_rfl), og (tp (by kernel_rfl)) (by kernel_rfl), og (tp (by kernel_rfl)) (by kernel_rfl), og (tp (by kernel_rfl)) (by kernel_rfl), og (tp ?_) (by kernel_rfl), og (tp ?_) (by kernel_rfl), og (tp ?_) (by kernel_rfl), og (tp ?_) (by kernel_rfl), og (tc (CC.out yW bW) (by kernel_rfl)) (by kernel_rfl), og (tp ?_) (by kernel_rfl), og (tp (by kernel_rfl)) (by kernel_rfl), og (tp (by kernel_rfl)) (by kernel_rfl), trivial⟩
              all_goals
                simp only [fillK, putT, List.setIfInBounds_toArray, List.set_cons_zero, List.set_cons_succ]
                unfold execOp
                go_simp
            clear F ivh aph
            obtain ⟨y, hy⟩ : ∃ z, z = yW := ⟨_, rfl⟩
            rw [← hy] at bW ⊢
            clear hy
            refine wpAny_done (by kernel_rfl) ?_ _
            simp only [fillK, putT, List.setIfInBounds_toArray, List.set_cons_zero, List.set_cons_succ]
            replace Bl := Bl.trans (bW.mono Bl.size)
            have HN2 : Hid (∀ j, j < k + 1 → P j = true ∧ (0 < j → C (j - 1) < 0)) := by
              unfold Hid; intro j hj
              by_cases hjk : j = k
              · subst hjk
                exact ⟨HPK.out.symm, fun _ => by rw [← HCV.out]; exact HZK.out⟩
              · exact HN.out j (by omega)
            go_wp2
            go_roundw
            case rel => exact ⟨k + 1, by omega, by go_num, HN2, Bl⟩
            case measure => simp [intOf]; omega
          · have hzn : 0 ≤ cv := by omega
            have HNo : Hid (R = false) := HF.out (fun h => by
              have h2 := (h.2 k (by omega)).2 hz
              rw [← HCV.out] at h2
              omega)
            try simp only [Act.put]
            refine tameG [kc 22 (.func (.func 86) #[] #[]), kc 23 (.agg #[.int .i64 ki, .int .i64 kr, .bool kv, .slice ha hn hc]), kc 24 (.bool true), kc 25 (.bool false), kc 26 (.bool false), kc 27 (.int .i64 (k : Int)), kc 28 (.bool true), kc 29 (.bool true), kc 30 (.func (.func 87) #[] #[]), kc 31 (.slice (some ⟨b, o, none⟩) n c), kc 32 (.int .i64 (k : Int)), kc 33 (.int .i64 ((k : Int) - 1)), kc 34 (.pointer (some ⟨b, o + (k - 1) * 4, none⟩)), kc 35 (.agg #[.int .i64 ki', .int .i64 kr', .bool kv', .slice ha' hn' hc']), kc 36 (.agg #[.int .i64 ki, .int .i64 kr, .bool kv, .slice ha hn hc]), kc 37 (.int .i64 cv), kc 38 (.bool true), kc 39 (.bool true), kc 40 (.bool true)] 19 (by kernel_rfl) (by kernel_rfl) (by kernel_rfl) (by repeat' first | exact trivial | apply kc_keeps | constructor) 0 (by kernel_rfl) (fun vv ll hh yW bW => ?_) (fun vv ll hh yW bW F ivh aph => ?_)
            · have x0 := (bW.cell (p := ⟨X, 0, none⟩) D.lt).trans d0
              have x1 := (bW.cell (p := ⟨X, 1, none⟩) D.lt).trans d1
              have x2 := (bW.cell (p := ⟨X, 2, none⟩) D.lt).trans d2
              have x3 := (bW.cell (p := ⟨X, 3, none⟩) D.lt).trans d3
              have y0 := (bW.cell (p := ⟨b, _, none⟩) hbs).trans r0
              have y1 := (bW.cell (p := ⟨b, _, none⟩) hbs).trans r1
              have y2 := (bW.cell (p := ⟨b, _, none⟩) hbs).trans r2
              have y3 := (bW.cell (p := ⟨b, _, none⟩) hbs).trans r3
              refine ⟨og (tp (by kernel_rfl)) (by kernel_rfl), og (tp ?_) (by kernel_rfl), og (tc (CP.out yW bW) (by kernel_rfl)) (by kernel_rfl), og (tp (by kernel_rfl)) (by kernel_rfl), og (tp (by kernel_rfl)) (by kernel_rfl), og (tp (by kernel_rfl)) (by kernel_rfl), og (tp ?_) (by kernel_rfl), og (tp (by kernel_rfl)) (by kernel_rfl), og (tp (by kernel_rfl)) (by kernel_rfl), og (tp (by kernel_rfl)) (by kernel_rfl), og (tp (by kernel_rfl)) (by kernel_rfl), og (tp ?_) (by kernel_rfl), og (tp ?_) (by kernel_rfl), og (tp ?_) (by kernel_rfl), og (tp ?_) (by kernel_rfl), og (tc (CC.out yW bW) (by kernel_rfl)) (by kernel_rfl), og (tp ?_) (by kernel_rfl), og (tp (by kernel_rfl)) (by kernel_rfl), og (tp (by kernel_rfl)) (by kernel_rfl), trivial⟩
              all_goals
                simp only [fillK, putT, List.setIfInBounds_toArray, List.set_cons_zero, List.set_cons_succ]
                unfold execOp
                go_simp
            clear F ivh aph
            obtain ⟨y, hy⟩ : ∃ z, z = yW := ⟨_, rfl⟩
            rw [← hy] at bW ⊢
            clear hy
            refine wpAny_done (by kernel_rfl) ?_ _
            simp only [fillK, putT, List.setIfInBounds_toArray, List.set_cons_zero, List.set_cons_succ]
            go_wp2
            go_ret
            exact ⟨by rw [HNo.out]; rfl, Bl.trans (bW.mono Bl.size)⟩
        · have HZ0 : Hid (k = 0) := by unfold Hid; omega
          have hkd : (0 < k) = False := by simp; omega
          clear hcell hz
          try simp only [Act.put]
          refine tameG [kc 22 (.func (.func 86) #[] #[]), kc 23 (.agg #[.int .i64 ki, .int .i64 kr, .bool kv, .slice ha hn hc]), kc 24 (.bool true), kc 25 (.bool false), kc 26 (.bool false), kc 27 (.int .i64 (k : Int)), kc 28 (.bool false), kc 29 (.bool false), kc 30 (undef), kc 31 (undef), kc 32 (undef), kc 33 (undef), kc 34 (undef), kc 35 (undef), kc 36 (undef), kc 37 (undef), kc 38 (undef), kc 39 (.bool false), kc 40 (.bool false)] 19 (by kernel_rfl) (by kernel_rfl) (by kernel_rfl) (by repeat' first | exact trivial | apply kc_keeps | constructor) 0 (by kernel_rfl) (fun vv ll hh yW bW => ?_) (fun vv ll hh yW bW F ivh aph => ?_)
          · have x0 := (bW.cell (p := ⟨X, 0, none⟩) D.lt).trans d0
            have x1 := (bW.cell (p := ⟨X, 1, none⟩) D.lt).trans d1
            have x2 := (bW.cell (p := ⟨X, 2, none⟩) D.lt).trans d2
            have x3 := (bW.cell (p := ⟨X, 3, none⟩) D.lt).trans d3
            refine ⟨og (tp (by kernel_rfl)) (by kernel_rfl), og (tp ?_) (by kernel_rfl), og (tc (CP.out yW bW) (by kernel_rfl)) (by kernel_rfl), og (tp (by kernel_rfl)) (by kernel_rfl), og (tp (by kernel_rfl)) (by kernel_rfl), og (tp (by kernel_rfl)) (by kernel_rfl), og (tp ?_) (by kernel_rfl), og (tp (by kernel_rfl)) (by kernel_rfl), ou (by kernel_rfl), ou (by kernel_rfl), ou (by kernel_rfl), ou (by kernel_rfl), ou (by kernel_rfl), ou (by kernel_rfl), ou (by kernel_rfl), ou (by kernel_rfl), ou (by kernel_rfl), og (tp (by kernel_rfl)) (by kernel_rfl), og (tp (by kernel_rfl)) (by kernel_rfl), trivial⟩
            all_goals
              simp only [fillK, putT, List.setIfInBounds_toArray, List.set_cons_zero, List.set_cons_succ]
              unfold execOp
              go_simp
          clear F ivh aph
          obtain ⟨y, hy⟩ : ∃ z, z = yW := ⟨_, rfl⟩
          rw [← hy] at bW ⊢
          clear hy
          refine wpAny_done (by kernel_rfl) ?_ _
          simp only [fillK, putT, List.setIfInBounds_toArray, List.set_cons_zero, List.set_cons_succ]
          replace Bl := Bl.trans (bW.mono Bl.size)
          have HN2 : Hid (∀ j, j < k + 1 → P j = true ∧ (0 < j → C (j - 1) < 0)) := by
            unfold Hid; intro j hj
            by_cases hjk : j = k
            · subst hjk
              exact ⟨HPK.out.symm, fun h => by have := HZ0.out; omega⟩
            · exact HN.out j (by omega)
          go_wp2
          go_roundw
          case rel => exact ⟨k + 1, by omega, by go_num, HN2, Bl⟩
          case measure => simp [intOf]; omega
    · have HRT : Hid (R = true) := HT.out ⟨by omega, fun i hi => HN.out i (by omega)⟩
      go_wp2
      go_ret
      exact ⟨by rw [HRT.out]; rfl, Bl⟩
end Go.Proofs.YtofflhhlacdgfaaDoor

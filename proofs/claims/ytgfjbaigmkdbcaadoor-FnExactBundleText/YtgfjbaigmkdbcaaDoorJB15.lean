/-
  What is proved here: the contract of the program's listOk over needs: it answers whether there are not too many, each is ok, and each is below the one behind it; the contract of the laws' eqByteS; contracts of two helpers of the exact laws (copy a slice of bytes, hold two against each other), for every slice of at most 2^21 bytes; contracts of two helpers of the exact laws (mark a slice of bytes, look whether the marks are held), for every slice of at most 2^21 bytes; the contract of a helper of the exact laws (hold two slices of ints against each other), for every slice of at most 2^21 ints; the contract of the laws' count of a slice of bytes.
-/
import Derived.Test.YtgfjbaigmkdbcaaDoorJB14
import Derived.Test.YtgfjbaigmkdbcaaDoorProg
import Derived.Test.YtgfjbaigmkdbcaaDoorJB1
import Derived.Deep.QuietTactic
import Derived.BigQuiet
namespace Go.Proofs.YtgfjbaigmkdbcaaDoor
open Go.RowKit
set_option maxRecDepth 100000
set_option maxHeartbeats 8000000

theorem implListOkNeed (a : Option Addr) (n c : Nat) (most : Int) (hm : most ≤ 1000) (v : Nat → L4) (P : Nat → Bool) (C : Nat → Int) (w : World) (hl : Rw4 w a n v) (hS : ∀ i, i < n → ∃ ki kr kv kw, v i = (⟨.int .i64 ki, .int .i64 kr, .int .i64 kv, .int .i64 kw⟩ : L4))
    (hP : ∀ i, i < n → ∀ W, Below w.heap.size w W → Calls Tryd.prog 59 #[.agg #[(v i).a, (v i).b, (v i).c, (v i).d]] W fun e w' => e = .returned (.bool (P i)) ∧ Below W.heap.size W w')
    (hC : ∀ i, i + 1 < n → ∀ W, Below w.heap.size w W → Calls Tryd.prog 60 #[.agg #[(v i).a, (v i).b, (v i).c, (v i).d], .agg #[(v (i + 1)).a, (v (i + 1)).b, (v (i + 1)).c, (v (i + 1)).d]] W fun e w' => e = .returned (.int .i64 (C i)) ∧ Below W.heap.size W w') :
    Calls Tryd.prog 58 #[.slice a n c, .int .i64 most, .func (.func 59) #[] #[], .func (.func 60) #[] #[]] w fun e w' => e = .returned (.bool (lstOk n most P C)) ∧ Below w.heap.size w w' := by
  obtain ⟨R, hR, HT, HF⟩ := lstOk_dec n most P C
  rw [hR]
  clear hR
  have HPP : Hid _ := hP
  have HCC : Hid _ := hC
  clear hP hC
  go_enter Tryd.func58, Tryd.ntmps58
  by_cases h8 : most < (n : Int)
  case pos =>
    have HNo : Hid (R = false) := HF.out (fun h => by have := h.1; omega)
    go_wp2
    go_ret
    exact ⟨by rw [HNo.out]; rfl, Below.refl _ _⟩
  have HKs : Hid (Rw4 w a n v) := hl
  clear hl
  go_wp2
  go_loopw [17] (fun i wr => ∃ k : Nat, k ≤ n ∧ i = .int .i64 k ∧ Hid (∀ j, j < k → P j = true ∧ (0 < j → C (j - 1) < 0)) ∧ Below w.heap.size w wr) (fun i _ => n - (intOf i).toNat)
  case atStart => exact ⟨0, by omega, rfl, (fun j hj => by omega), Below.refl _ _⟩
  case round =>
    obtain ⟨k, hk, rfl, HN, Bl⟩ := hrel
    by_cases hlt : (k : Int) < (n : Int)
    · obtain ⟨b, o, rfl, hbs, hcell⟩ : ∃ b o, a = some ⟨b, o, none⟩ ∧ b < wr.heap.size ∧ ∀ i, i < n → Cell4 wr b (o + i * 4) (v i) := by
        rcases HKs.out.below Bl with hq | hq
        · omega
        · exact hq
      have P0 := hcell k (by omega)
      obtain ⟨p, ep⟩ : ∃ p, p = v k := ⟨_, rfl⟩
      have cP := HPP.out k (by omega)
      obtain ⟨ki, kr, kv, kw, es⟩ := hS k (by omega)
      rw [← ep] at es
      rw [← ep] at P0 cP
      subst es
      obtain ⟨q1, q2, q3, q4⟩ := P0
      simp only [] at q1 q2 q3 q4 cP
      have HE : Hid _ := ep
      have hk0 : (0 : Int) ≤ (k : Int) := by omega
      clear ep
      go_upto_region 6 with fail
      obtain ⟨Z, hZ⟩ : ∃ Z, Z = wr.alloc (.cells #[.int .i64 ki, .int .i64 kr, .int .i64 kv, .int .i64 kw] 65) := ⟨_, rfl⟩
      have bV : Below wr.heap.size wr Z := by rw [hZ]; exact (Below.refl _ _).alloc (Nat.le_refl _) _
      have D : Arr Z wr.heap.size 65 [.int .i64 ki, .int .i64 kr, .int .i64 kv, .int .i64 kw] := by rw [hZ]; exact Arr.new _ _ _
      rw [← hZ]
      obtain ⟨X, hX⟩ : ∃ X, X = wr.heap.size := ⟨_, rfl⟩
      rw [← hX] at D ⊢
      replace hcell := fun i hi => (hcell i hi).below hbs bV
      replace hbs := Nat.lt_of_lt_of_le hbs bV.size
      replace Bl := Bl.trans (bV.mono Bl.size)
      replace cP := fun W (h : Below Z.heap.size Z W) => cP W (Bl.trans (h.mono Bl.size))
      have CP : Hid _ := cP
      clear hZ hX bV q1 q2 q3 q4 cP
      have d0 := D.cell 0
      have d1 := D.cell 1
      have d2 := D.cell 2
      have d3 := D.cell 3
      simp at d0 d1 d2 d3
      obtain ⟨pk, epk⟩ : ∃ q, q = P k := ⟨_, rfl⟩
      rw [← epk] at CP
      have HPK : Hid _ := epk
      clear epk
      cases pk with
      | false =>
        have HNo : Hid (R = false) := HF.out (fun h => by
          have h2 := (h.2 k (by omega)).1
          rw [← HPK.out] at h2
          cases h2)
        try simp only [Act.put]
        refine tameG [kc 22 (.func (.func 59) #[] #[]), kc 23 (.agg #[.int .i64 ki, .int .i64 kr, .int .i64 kv, .int .i64 kw]), kc 24 (.bool false), kc 25 (.bool true), kc 26 (.bool true), kc 27 (undef), kc 28 (undef), kc 29 (undef), kc 30 (undef), kc 31 (undef), kc 32 (undef), kc 33 (undef), kc 34 (undef), kc 35 (undef), kc 36 (undef), kc 37 (undef), kc 38 (undef), kc 39 (undef), kc 40 (.bool true)] 19 (by kernel_rfl) (by kernel_rfl) (by kernel_rfl) (by repeat' first | exact trivial | apply kc_keeps | constructor) 0 (by kernel_rfl) (fun vv ll hh yW bW => ?_) (fun vv ll hh yW bW F ivh aph => ?_)
        · have x0 := (bW.cell (p := ⟨X, 0, none⟩) D.lt).trans d0
          have x1 := (bW.cell (p := ⟨X, 1, none⟩) D.lt).trans d1
          have x2 := (bW.cell (p := ⟨X, 2, none⟩) D.lt).trans d2
          have x3 := (bW.cell (p := ⟨X, 3, none⟩) D.lt).trans d3
          refine ⟨og (tp (by kernel_rfl)) (by kernel_rfl), og (tp ?_) (by kernel_rfl), og (tc (CP.out yW bW) (by kernel_rfl)) (by kernel_rfl), og (tp (by kernel_rfl)) (by kernel_rfl), og (tp (by kernel_rfl)) (by kernel_rfl), ou (by kernel_rfl), ou (by kernel_rfl), ou (by kernel_rfl), ou (by kernel_rfl), ou (by kernel_rfl), ou (by kernel_rfl), ou (by kernel_rfl), ou (by kernel_rfl), ou (by kernel_rfl), ou (by kernel_rfl), ou (by kernel_rfl), ou (by kernel_rfl), ou (by kernel_rfl), og (tp (by kernel_rfl)) (by kernel_rfl), trivial⟩
          all_goals
            simp only [fillK, putT, List.setIfInBounds_toArray, List.set_cons_zero, List.set_cons_succ]
            unfold execOp
            go_simp
            try rfl
        clear F ivh aph
        obtain ⟨y, hy⟩ : ∃ z, z = yW := ⟨_, rfl⟩
        rw [← hy] at bW ⊢
        clear hy
        refine wpAny_done (by kernel_rfl) ?_ _
        simp only [fillK, putT, List.setIfInBounds_toArray, List.set_cons_zero, List.set_cons_succ]
        go_wp2
        go_ret
        exact ⟨by rw [HNo.out]; rfl, Bl.trans (bW.mono Bl.size)⟩
      | true =>
        by_cases hz : 0 < k
        · have hkd : (0 : Int) < (k : Int) := by omega
          have hk1 : (1 : Int) ≤ (k : Int) := by omega
          have hk2 : (k : Int) - 1 < (n : Int) := by omega
          have hw1 : IntKind.i64.wrap ((k : Int) - 1) = (k : Int) - 1 := by rw [IntKind.wrap_i64]; omega
          have ht1 : ((k : Int) - 1).toNat = k - 1 := by omega
          have P' := hcell (k - 1) (by omega)
          have cC := HCC.out (k - 1) (by omega)
          rw [show k - 1 + 1 = k by omega, ← HE.out] at cC
          obtain ⟨q, eq⟩ : ∃ q, q = v (k - 1) := ⟨_, rfl⟩
          rw [← eq] at P' cC
          obtain ⟨ki', kr', kv', kw', es⟩ := hS (k - 1) (by omega)
          rw [← eq] at es
          clear eq
          subst es
          obtain ⟨r0, r1, r2, r3⟩ := P'
          simp only [] at r0 r1 r2 r3 cC
          replace cC := fun W (h : Below Z.heap.size Z W) => cC W (Bl.trans (h.mono Bl.size))
          obtain ⟨cv, ecv⟩ : ∃ z, z = C (k - 1) := ⟨_, rfl⟩
          rw [← ecv] at cC
          have CC : Hid _ := cC
          have HCV : Hid _ := ecv
          clear cC ecv hcell
          by_cases hzk : cv < 0
          · have hzn : ¬ 0 ≤ cv := by omega
            have HZK : Hid _ := hzk
            try simp only [Act.put]
            refine tameG [kc 22 (.func (.func 59) #[] #[]), kc 23 (.agg #[.int .i64 ki, .int .i64 kr, .int .i64 kv, .int .i64 kw]), kc 24 (.bool true), kc 25 (.bool false), kc 26 (.bool false), kc 27 (.int .i64 (k : Int)), kc 28 (.bool true), kc 29 (.bool true), kc 30 (.func (.func 60) #[] #[]), kc 31 (.slice (some ⟨b, o, none⟩) n c), kc 32 (.int .i64 (k : Int)), kc 33 (.int .i64 ((k : Int) - 1)), kc 34 (.pointer (some ⟨b, o + (k - 1) * 4, none⟩)), kc 35 (.agg #[.int .i64 ki', .int .i64 kr', .int .i64 kv', .int .i64 kw']), kc 36 (.agg #[.int .i64 ki, .int .i64 kr, .int .i64 kv, .int .i64 kw]), kc 37 (.int .i64 cv), kc 38 (.bool false), kc 39 (.bool false), kc 40 (.bool false)] 19 (by kernel_rfl) (by kernel_rfl) (by kernel_rfl) (by repeat' first | exact trivial | apply kc_keeps | constructor) 0 (by kernel_rfl) (fun vv ll hh yW bW => ?_) (fun vv ll hh yW bW F ivh aph => ?_)
            · have x0 := (bW.cell (p := ⟨X, 0, none⟩) D.lt).trans d0
              have x1 := (bW.cell (p := ⟨X, 1, none⟩) D.lt).trans d1
              have x2 := (bW.cell (p := ⟨X, 2, none⟩) D.lt).trans d2
              have x3 := (bW.cell (p := ⟨X, 3, none⟩) D.lt).trans d3
              have y0 := (bW.cell (p := ⟨b, _, none⟩) hbs).trans r0
              have y1 := (bW.cell (p := ⟨b, _, none⟩) hbs).trans r1
              have y2 := (bW.cell (p := ⟨b, _, none⟩) hbs).trans r2
              have y3 := (bW.cell (p := ⟨b, _, none⟩) hbs).trans r3
              refine ⟨og (tp (by kernel_rfl)) (by kernel_rfl), og (tp ?_) (by kernel_rfl), og (tc (CP.out yW bW) (by kernel_rfl)) (by kernel_rfl), og (tp (by kernel_rfl)) (by kernel_rfl), og (tp (by kernel_rfl)) (by kernel_rfl), og (tp (by kernel_rfl)) (by kernel_rfl), og (tp ?_) (by kernel_rfl), og (tp (by kernel_rfl)) (by kernel_rfl), og (tp (by kernel_rfl)) (by kernel_rfl), og (tp (by kernel_rfl)) (by kernel_rfl), og (tp (by kernel_rfl)) (by kernel_rfl), og (tp ?_) (by kernel_rfl), og (tp ?_) (by kernel_rfl), og (tp ?_) (by kernel_rfl), og (tp ?_) (by kernel_rfl), og (tc (CC.out yW bW) (by kernel_rfl)) (by kernel_rfl), og (tp ?_) (by kernel_rfl), og (tp (by kernel_rfl)) (by kernel_rfl), og (tp (by kernel_rfl)) (by kernel_rfl), trivial⟩
              all_goals
                simp only [fillK, putT, List.setIfInBounds_toArray, List.set_cons_zero, List.set_cons_succ]
                unfold execOp
                go_simp
                try rfl
            clear F ivh aph
            obtain ⟨y, hy⟩ : ∃ z, z = yW := ⟨_, rfl⟩
            rw [← hy] at bW ⊢
            clear hy
            refine wpAny_done (by kernel_rfl) ?_ _
            simp only [fillK, putT, List.setIfInBounds_toArray, List.set_cons_zero, List.set_cons_succ]
            replace Bl := Bl.trans (bW.mono Bl.size)
            have HN2 : Hid (∀ j, j < k + 1 → P j = true ∧ (0 < j → C (j - 1) < 0)) := by
              unfold Hid; intro j hj
              by_cases hjk : j = k
              · subst hjk
                exact ⟨HPK.out.symm, fun _ => by rw [← HCV.out]; exact HZK.out⟩
              · exact HN.out j (by omega)
            go_wp2
            go_roundw
            case rel => exact ⟨k + 1, by omega, by go_num, HN2, Bl⟩
            case measure => simp [intOf]; omega
          · have hzn : 0 ≤ cv := by omega
            have HNo : Hid (R = false) := HF.out (fun h => by
              have h2 := (h.2 k (by omega)).2 hz
              rw [← HCV.out] at h2
              omega)
            try simp only [Act.put]
            refine tameG [kc 22 (.func (.func 59) #[] #[]), kc 23 (.agg #[.int .i64 ki, .int .i64 kr, .int .i64 kv, .int .i64 kw]), kc 24 (.bool true), kc 25 (.bool false), kc 26 (.bool false), kc 27 (.int .i64 (k : Int)), kc 28 (.bool true), kc 29 (.bool true), kc 30 (.func (.func 60) #[] #[]), kc 31 (.slice (some ⟨b, o, none⟩) n c), kc 32 (.int .i64 (k : Int)), kc 33 (.int .i64 ((k : Int) - 1)), kc 34 (.pointer (some ⟨b, o + (k - 1) * 4, none⟩)), kc 35 (.agg #[.int .i64 ki', .int .i64 kr', .int .i64 kv', .int .i64 kw']), kc 36 (.agg #[.int .i64 ki, .int .i64 kr, .int .i64 kv, .int .i64 kw]), kc 37 (.int .i64 cv), kc 38 (.bool true), kc 39 (.bool true), kc 40 (.bool true)] 19 (by kernel_rfl) (by kernel_rfl) (by kernel_rfl) (by repeat' first | exact trivial | apply kc_keeps | constructor) 0 (by kernel_rfl) (fun vv ll hh yW bW => ?_) (fun vv ll hh yW bW F ivh aph => ?_)
            · have x0 := (bW.cell (p := ⟨X, 0, none⟩) D.lt).trans d0
              have x1 := (bW.cell (p := ⟨X, 1, none⟩) D.lt).trans d1
              have x2 := (bW.cell (p := ⟨X, 2, none⟩) D.lt).trans d2
              have x3 := (bW.cell (p := ⟨X, 3, none⟩) D.lt).trans d3
              have y0 := (bW.cell (p := ⟨b, _, none⟩) hbs).trans r0
              have y1 := (bW.cell (p := ⟨b, _, none⟩) hbs).trans r1
              have y2 := (bW.cell (p := ⟨b, _, none⟩) hbs).trans r2
              have y3 := (bW.cell (p := ⟨b, _, none⟩) hbs).trans r3
              refine ⟨og (tp (by kernel_rfl)) (by kernel_rfl), og (tp ?_) (by kernel_rfl), og (tc (CP.out yW bW) (by kernel_rfl)) (by kernel_rfl), og (tp (by kernel_rfl)) (by kernel_rfl), og (tp (by kernel_rfl)) (by kernel_rfl), og (tp (by kernel_rfl)) (by kernel_rfl), og (tp ?_) (by kernel_rfl), og (tp (by kernel_rfl)) (by kernel_rfl), og (tp (by kernel_rfl)) (by kernel_rfl), og (tp (by kernel_rfl)) (by kernel_rfl), og (tp (by kernel_rfl)) (by kernel_rfl), og (tp ?_) (by kernel_rfl), og (tp ?_) (by kernel_rfl), og (tp ?_) (by kernel_rfl), og (tp ?_) (by kernel_rfl), og (tc (CC.out yW bW) (by kernel_rfl)) (by kernel_rfl), og (tp ?_) (by kernel_rfl), og (tp (by kernel_rfl)) (by kernel_rfl), og (tp (by kernel_rfl)) (by kernel_rfl), trivial⟩
              all_goals
                simp only [fillK, putT, List.setIfInBounds_toArray, List.set_cons_zero, List.set_cons_succ]
                unfold execOp
                go_simp
                try rfl
            clear F ivh aph
            obtain ⟨y, hy⟩ : ∃ z, z = yW := ⟨_, rfl⟩
            rw [← hy] at bW ⊢
            clear hy
            refine wpAny_done (by kernel_rfl) ?_ _
            simp only [fillK, putT, List.setIfInBounds_toArray, List.set_cons_zero, List.set_cons_succ]
            go_wp2
            go_ret
            exact ⟨by rw [HNo.out]; rfl, Bl.trans (bW.mono Bl.size)⟩
        · have HZ0 : Hid (k = 0) := by unfold Hid; omega
          have hkd : (0 < k) = False := by simp; omega
          clear hcell hz
          try simp only [Act.put]
          refine tameG [kc 22 (.func (.func 59) #[] #[]), kc 23 (.agg #[.int .i64 ki, .int .i64 kr, .int .i64 kv, .int .i64 kw]), kc 24 (.bool true), kc 25 (.bool false), kc 26 (.bool false), kc 27 (.int .i64 (k : Int)), kc 28 (.bool false), kc 29 (.bool false), kc 30 (undef), kc 31 (undef), kc 32 (undef), kc 33 (undef), kc 34 (undef), kc 35 (undef), kc 36 (undef), kc 37 (undef), kc 38 (undef), kc 39 (.bool false), kc 40 (.bool false)] 19 (by kernel_rfl) (by kernel_rfl) (by kernel_rfl) (by repeat' first | exact trivial | apply kc_keeps | constructor) 0 (by kernel_rfl) (fun vv ll hh yW bW => ?_) (fun vv ll hh yW bW F ivh aph => ?_)
          · have x0 := (bW.cell (p := ⟨X, 0, none⟩) D.lt).trans d0
            have x1 := (bW.cell (p := ⟨X, 1, none⟩) D.lt).trans d1
            have x2 := (bW.cell (p := ⟨X, 2, none⟩) D.lt).trans d2
            have x3 := (bW.cell (p := ⟨X, 3, none⟩) D.lt).trans d3
            refine ⟨og (tp (by kernel_rfl)) (by kernel_rfl), og (tp ?_) (by kernel_rfl), og (tc (CP.out yW bW) (by kernel_rfl)) (by kernel_rfl), og (tp (by kernel_rfl)) (by kernel_rfl), og (tp (by kernel_rfl)) (by kernel_rfl), og (tp (by kernel_rfl)) (by kernel_rfl), og (tp ?_) (by kernel_rfl), og (tp (by kernel_rfl)) (by kernel_rfl), ou (by kernel_rfl), ou (by kernel_rfl), ou (by kernel_rfl), ou (by kernel_rfl), ou (by kernel_rfl), ou (by kernel_rfl), ou (by kernel_rfl), ou (by kernel_rfl), ou (by kernel_rfl), og (tp (by kernel_rfl)) (by kernel_rfl), og (tp (by kernel_rfl)) (by kernel_rfl), trivial⟩
            all_goals
              simp only [fillK, putT, List.setIfInBounds_toArray, List.set_cons_zero, List.set_cons_succ]
              unfold execOp
              go_simp
              try rfl
          clear F ivh aph
          obtain ⟨y, hy⟩ : ∃ z, z = yW := ⟨_, rfl⟩
          rw [← hy] at bW ⊢
          clear hy
          refine wpAny_done (by kernel_rfl) ?_ _
          simp only [fillK, putT, List.setIfInBounds_toArray, List.set_cons_zero, List.set_cons_succ]
          replace Bl := Bl.trans (bW.mono Bl.size)
          have HN2 : Hid (∀ j, j < k + 1 → P j = true ∧ (0 < j → C (j - 1) < 0)) := by
            unfold Hid; intro j hj
            by_cases hjk : j = k
            · subst hjk
              exact ⟨HPK.out.symm, fun h => by have := HZ0.out; omega⟩
            · exact HN.out j (by omega)
          go_wp2
          go_roundw
          case rel => exact ⟨k + 1, by omega, by go_num, HN2, Bl⟩
          case measure => simp [intOf]; omega
    · have HRT : Hid (R = true) := HT.out ⟨by omega, fun i hi => HN.out i (by omega)⟩
      go_wp2
      go_ret
      exact ⟨by rw [HRT.out]; rfl, Bl⟩
end Go.Proofs.YtgfjbaigmkdbcaaDoor
namespace Go.Proofs.YtgfjbaigmkdbcaaDoor
open Go.RowKit

theorem set_take (xs : List Int) (n k : Nat) (h : k < xs.length) (hn : xs.length = n) :
    (U8 (xs.take k ++ List.replicate (n - k) 0)).set k (.int .u8 (xs.getD k 0)) = U8 (xs.take (k + 1) ++ List.replicate (n - (k + 1)) 0) := by
  have e : n - k = (n - (k + 1)) + 1 := by omega
  rw [take_snoc xs k h, e, List.replicate_succ]
  have hl : (xs.take k).length = k := by simp; omega
  simp only [U8, List.map_append, List.map_cons]
  rw [List.set_append_right _ _ (by simp; omega)]
  simp [Nat.min_eq_left (show k ≤ xs.length by omega)]

set_option maxHeartbeats 400000 in
theorem eqB (a a' : Option Addr) (n cap cap' : Nat) (xs : List Int) (w : World) (h : Bs w a n cap xs) (h' : Bs w a' n cap' xs) (hn : n ≤ 2097152) :
    Calls Tryd.prog 11 #[.slice a n cap, .slice a' n cap'] w fun e w' => ∃ q, e = .returned (.bool true) ∧ w' = w.drewN q := by
  obtain ⟨_, hl, hc, hby, h⟩ := h
  obtain ⟨_, _, hc', _, h'⟩ := h'
  have hne : ((n : Int) != (n : Int)) = false := by simp
  go_enter Tryd.func11, Tryd.ntmps11
  go_wp2
  go_loopw [5] (fun i wr => ∃ k q : Nat, k ≤ n ∧ i = .int .i64 k ∧ wr = w.drewN q) (fun i _ => n - (intOf i).toNat)
  case atStart => exact ⟨0, 0, Nat.zero_le _, rfl, rfl⟩
  case round =>
    obtain ⟨k, q, hk, rfl, rfl⟩ := hrel
    by_cases hlt : k < n
    · rcases h with h | ⟨b, o, rfl, hbs, hcell⟩
      · omega
      · rcases h' with h' | ⟨b', o', rfl, hbs', hcell'⟩
        · omega
        · obtain ⟨x, hx⟩ : ∃ x, x = xs.getD k 0 := ⟨_, rfl⟩
          have hck : w.cell? ⟨b, o + k, none⟩ = some (.int .u8 x) := by rw [hx]; exact hcell k hlt
          have hck' : w.cell? ⟨b', o' + k, none⟩ = some (.int .u8 x) := by rw [hx]; exact hcell' k hlt
          have hxx : (x != x) = false := by simp
          have hlt' : (k : Int) < (n : Int) := by omega
          clear hcell hcell' hx
          go_wp2
          go_quiet (fail)
          go_wp2
          go_roundw
          case rel => exact ⟨k + 1, _, by omega, by go_num, rfl⟩
          case measure => simp [intOf]; omega
    · go_wp2
      go_ret
      exact ⟨q, rfl, rfl⟩

end Go.Proofs.YtgfjbaigmkdbcaaDoor
namespace Go.Proofs.YtgfjbaigmkdbcaaDoor
open Go.RowKit

set_option maxHeartbeats 400000 in
theorem toB (a : Option Addr) (n cap : Nat) (xs : List Int) (w : World) (h : Bs w a n cap xs) (hn : n ≤ 2097152) :
    Calls Tryd.prog 66 #[.slice a n cap] w fun e w' => ∃ v, e = .returned v ∧ w'.ownsRow w.heap.size 5 1 v n (U8 xs) ∧ Below w.heap.size w w' := by
  obtain ⟨i0, hi, hz0, hz1, hz2⟩ := info_parts Tryd.info5
  obtain ⟨_, hl, hc, _, h⟩ := h
  go_enter Tryd.func66, Tryd.ntmps66
  go_wp2_with (at_make; refine wpList_make_full _ rfl _ _ 27 rfl w.heap.size 5 i0 (.int .u8 0) 1 Tryd.underlying27 hi hz0 hz1 .i64 .i64 n n n rfl rfl rfl rfl (by rw [hz2]; omega) (by unfold maxLen; omega) (Nat.le_refl _) ?_; intro w1 hown hgrow)
  have hbel : Below w.heap.size w w1 := (Below.refl _ _).grown hgrow (Nat.le_refl _) (by intro k hk; cases hk)
  have hown0 : w1.ownsRow w.heap.size 5 1 (.slice (some ⟨w.heap.size, 0, none⟩) n n) n (U8 (xs.take 0 ++ List.replicate (n - 0) 0)) := by
    have e : (madeCells (Value.int IntKind.u8 0).cells (n * 1)).toList = U8 (xs.take 0 ++ List.replicate (n - 0) 0) := by
      rw [Nat.mul_one]; simpa [U8, Value.cells] using toList_madeCells_one (.int .u8 0) n
    rw [← e]; exact hown
  clear hown hgrow
  go_loopw [4] (fun i wr => ∃ k : Nat, k ≤ n ∧ i = .int .i64 k ∧ wr.ownsRow w.heap.size 5 1 (.slice (some ⟨w.heap.size, 0, none⟩) n n) n (U8 (xs.take k ++ List.replicate (n - k) 0)) ∧ Below w.heap.size w wr) (fun i _ => n - (intOf i).toNat)
  case atStart => exact ⟨0, Nat.zero_le _, rfl, hown0, hbel⟩
  case round =>
    obtain ⟨k, hk, rfl, hown, hb⟩ := hrel
    clear hown0 hbel
    by_cases hlt : k < n
    · rcases h with h | ⟨b, o, rfl, hbs, hcell⟩
      · omega
      · obtain ⟨x, hx⟩ : ∃ x, x = xs.getD k 0 := ⟨_, rfl⟩
        have hck : wr.cell? ⟨b, o + k, none⟩ = some (.int .u8 x) := by rw [hx]; exact (hb.cell (p := ⟨b, o + k, none⟩) hbs).trans (hcell k hlt)
        have hfz := hown.frozenAt k
        obtain ⟨u, hu⟩ : ∃ u, wr.cell? ⟨w.heap.size, k, none⟩ = some u := by
          rw [hown.cellAt k (by omega)]
          have : k < (U8 (xs.take k ++ List.replicate (n - k) 0)).length := by simp; omega
          exact ⟨_, List.getElem?_eq_getElem this⟩
        have hst := hown.stored k (.int .u8 x)
        rw [hx, set_take xs n k (by omega) hl, ← hx] at hst
        have hb2 := hb.setCell (p := ⟨w.heap.size, k, none⟩) (Nat.le_refl _) (.int .u8 x)
        have HS : Hid _ := hst
        have HB : Hid _ := hb2
        clear hst hb2 hown hcell hx
        go_wp2
        go_roundw
        case rel => exact ⟨k + 1, by omega, by go_num, HS.out.1, HB.out⟩
        case measure => simp [intOf]; omega
    · have hkn : k = n := by omega
      subst hkn
      go_wp2
      go_ret
      refine ⟨_, rfl, ?_, hb⟩
      simpa [List.take_of_length_le (show xs.length ≤ k by omega)] using hown

theorem toS (a : Option Addr) (n cap : Nat) (xs : List Int) (w : World) (h : Bs w a n cap xs) (hn : n ≤ 2097152) :
    Calls Tryd.prog 66 #[.slice a n cap] w fun e w' => ∃ a' cap', e = .returned (.slice a' n cap') ∧ w'.ownsRow w.heap.size 5 1 (.slice a' n cap') n (U8 xs) ∧ Bs w' a' n cap' xs ∧ Below w.heap.size w w' := by
  have hby := h.2.2.2.1
  refine (toB a n cap xs w h hn).mono ?_
  rintro e w' ⟨v, rfl, hown, hb⟩
  obtain ⟨a', cap', rfl, _, hbs⟩ := Bs.own hown hby
  exact ⟨a', cap', rfl, hown, hbs, hb⟩
end Go.Proofs.YtgfjbaigmkdbcaaDoor
namespace Go.Proofs.YtgfjbaigmkdbcaaDoor
open Go.RowKit

/-- The marks: k0, k0 + 1, .. as bytes. -/
def marks (k0 : Int) (n : Nat) : List Int := (List.range n).map (fun j : Nat => (k0 + (j : Int)) % 256)
theorem marks_len (k0 : Int) (n : Nat) : (marks k0 n).length = n := by simp [marks]
theorem marks_get (k0 : Int) (n k : Nat) (h : k < n) : (marks k0 n).getD k 0 = (k0 + (k : Int)) % 256 := by simp [marks, h]
theorem marks_byte (k0 : Int) (n : Nat) : ∀ x ∈ marks k0 n, 0 ≤ x ∧ x < 256 := by
  intro x hx; simp only [marks, List.mem_map] at hx; obtain ⟨j, _, rfl⟩ := hx; omega
theorem set_marks (xs : List Int) (k0 : Int) (n k : Nat) (h : k < n) (hn : xs.length = n) :
    (U8 (marks k0 k ++ xs.drop k)).set k (.int .u8 ((k0 + (k : Int)) % 256)) = U8 (marks k0 (k + 1) ++ xs.drop (k + 1)) := by
  have e : xs.drop k = xs.getD k 0 :: xs.drop (k + 1) := by
    rw [List.drop_eq_getElem_cons (by omega)]; simp [show k < xs.length by omega]
  have e2 : marks k0 (k + 1) = marks k0 k ++ [(k0 + (k : Int)) % 256] := by simp [marks, List.range_succ]
  rw [e, e2]
  simp only [U8, List.map_append, List.map_cons]
  rw [List.set_append_right _ _ (by simp [marks_len])]
  simp [marks_len]

set_option maxHeartbeats 400000 in
theorem markB (B n : Nat) (v : Value) (k0 : Int) (xs : List Int) (w : World) (hown : w.ownsRow B 5 1 v n (U8 xs)) (hn : n ≤ 2097152) (h0 : 0 ≤ k0) (h1 : k0 ≤ 4611686018427387904) :
    Calls Tryd.prog 14 #[v, .int .i64 k0] w fun e w' => e = .returned (.int .i64 (k0 + n)) ∧ w'.ownsRow B 5 1 v n (U8 (marks k0 n)) ∧ w.grownBy w' v.ownBlock := by
  obtain ⟨hl, hs⟩ := own_shape hown
  rcases hs with ⟨rfl, rfl⟩ | ⟨g, cap, rfl, hg, hgs, hnc, hcm, hc, hf⟩
  · go_enter Tryd.func14, Tryd.ntmps14
    go_wp2
    refine wp_loop_rounds 1 ?_
    rw [rounds_succ]
    go_wp2
    go_ret
    exact ⟨by simp, by simpa [marks] using World.ownsRow_nil w B 5 1, World.grownBy.refl _ _⟩
  · have hown0 : w.ownsRow B 5 1 (.slice (some ⟨g, 0, none⟩) n cap) n (U8 (marks k0 0 ++ xs.drop 0)) := by simpa [marks] using hown
    clear hown hc hf
    go_enter Tryd.func14, Tryd.ntmps14
    go_wp2
    go_loopw [1, 5] (fun m i wr => ∃ k : Nat, k ≤ n ∧ i = .int .i64 k ∧ m = .int .i64 (k0 + k) ∧ wr.ownsRow B 5 1 (.slice (some ⟨g, 0, none⟩) n cap) n (U8 (marks k0 k ++ xs.drop k)) ∧ w.grownBy wr (some g)) (fun _ i _ => n - (intOf i).toNat)
    case atStart => exact ⟨0, Nat.zero_le _, rfl, by simp, hown0, World.grownBy.refl _ _⟩
    case round =>
      obtain ⟨k, hk, rfl, rfl, hown, hb⟩ := hrel
      clear hown0
      by_cases hlt : k < n
      · have hfz := hown.frozenAt k
        obtain ⟨u, hu⟩ : ∃ u, wr.cell? ⟨g, k, none⟩ = some u := by
          rw [hown.cellAt k (by omega)]
          have : k < (U8 (marks k0 k ++ xs.drop k)).length := by simp [marks_len]; omega
          exact ⟨_, List.getElem?_eq_getElem this⟩
        have hst := hown.stored k (.int .u8 ((k0 + (k : Int)) % 256))
        rw [set_marks xs k0 n k hlt hl] at hst
        have HS : Hid _ := hst
        have HB : Hid _ := hb
        have hcv : IntKind.u8.wrap (k0 + (k : Int)) = (k0 + (k : Int)) % 256 := by simp [IntKind.wrap, IntKind.signed, IntKind.bits]
        clear hst hb hown
        go_wp2
        go_roundw
        case rel => exact ⟨k + 1, by omega, by go_num, by go_num, HS.out.1, grown_trans HB.out HS.out.2⟩
        case measure => simp [intOf]; omega
      · have hkn : k = n := by omega
        subst hkn
        go_wp2
        go_ret
        refine ⟨rfl, ?_, hb⟩
        simpa [List.drop_eq_nil_of_le (show xs.length ≤ k by omega)] using hown

set_option maxHeartbeats 400000 in
theorem heldB (a : Option Addr) (n cap : Nat) (k0 : Int) (w : World) (h : Bs w a n cap (marks k0 n)) (hn : n ≤ 2097152) (h0 : 0 ≤ k0) (h1 : k0 ≤ 4611686018427387904) :
    Calls Tryd.prog 15 #[.slice a n cap, .int .i64 k0] w fun e w' => e = .returned (.int .i64 (k0 + n)) ∧ w' = w := by
  obtain ⟨_, hl, hc, _, h⟩ := h
  go_enter Tryd.func15, Tryd.ntmps15
  go_wp2
  go_loop [1, 5] (fun m i => ∃ k : Nat, k ≤ n ∧ i = .int .i64 k ∧ m = .int .i64 (k0 + k)) (fun _ i => n - (intOf i).toNat)
  case atStart => exact ⟨0, Nat.zero_le _, rfl, by simp⟩
  case round =>
    obtain ⟨k, hk, rfl, rfl⟩ := hrel
    by_cases hlt : k < n
    · rcases h with h | ⟨b, o, rfl, hbs, hcell⟩
      · omega
      · have hck : w.cell? ⟨b, o + k, none⟩ = some (.int .u8 ((k0 + (k : Int)) % 256)) := by rw [← marks_get k0 n k hlt]; exact hcell k hlt
        have hcv : IntKind.u8.wrap (k0 + (k : Int)) = (k0 + (k : Int)) % 256 := by simp [IntKind.wrap, IntKind.signed, IntKind.bits]
        have hxx : (((k0 + (k : Int)) % 256) != ((k0 + (k : Int)) % 256)) = false := by simp
        clear hcell
        go_wp2
        go_round
        case rel => exact ⟨k + 1, by omega, by go_num, by go_num⟩
        case measure => simp [intOf]; omega
    · have hkn : k = n := by omega
      subst hkn
      go_wp2
      go_ret
      exact ⟨rfl, rfl⟩
end Go.Proofs.YtgfjbaigmkdbcaaDoor
namespace Go.Proofs.YtgfjbaigmkdbcaaDoor
open Go.RowKit

theorem set_takeI (xs : List Int) (n k : Nat) (h : k < xs.length) (hn : xs.length = n) :
    (I64 (xs.take k ++ List.replicate (n - k) 0)).set k (.int .i64 (xs.getD k 0)) = I64 (xs.take (k + 1) ++ List.replicate (n - (k + 1)) 0) := by
  have e : n - k = (n - (k + 1)) + 1 := by omega
  rw [take_snoc xs k h, e, List.replicate_succ]
  have hl : (xs.take k).length = k := by simp; omega
  simp only [I64, List.map_append, List.map_cons]
  rw [List.set_append_right _ _ (by simp; omega)]
  simp [Nat.min_eq_left (show k ≤ xs.length by omega)]

end Go.Proofs.YtgfjbaigmkdbcaaDoor
namespace Go.Proofs.YtgfjbaigmkdbcaaDoor
open Go.RowKit

set_option maxHeartbeats 1000000 in
theorem szB (a : Option Addr) (n c : Nat) (l : Int) (w : World) (h0 : 0 ≤ l) (h1 : l ≤ 1048576) (hn : n ≤ 9223372036854775807) :
    Calls Tryd.prog 65 #[.slice a n c, .int .i64 l] w fun e w' => e = .returned (.int .i64 (if l - (n : Int) < 0 then -1 else l - (n : Int))) ∧ w' = w := by
  have hw : wrap64 (l - (n : Int)) = l - (n : Int) := by unfold wrap64; omega
  by_cases hlt : l - (n : Int) < 0
  · rw [if_pos hlt]
    go_enter Tryd.func65, Tryd.ntmps65
    go_wp2
    go_ret
    exact ⟨rfl, rfl⟩
  · rw [if_neg hlt]
    go_enter Tryd.func65, Tryd.ntmps65
    go_wp2
    go_ret
    exact ⟨rfl, rfl⟩

end Go.Proofs.YtgfjbaigmkdbcaaDoor

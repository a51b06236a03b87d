/-
  What is proved here: the contract of the specification's l8meets; what it is to meet needs as a plain fact; the contract of the specification's Meets; the needs that a bundle lacks, as plain data; append onto a row of needs, and where the new row lies.
-/
import Derived.Test.YtgfjbaigmkdbcaaBd
import Derived.Test.YtgfjbaigmkdbcaaJM6
import Derived.Test.YtgfjbaigmkdbcaaJM5
import Derived.Maps.AppendAt
namespace Go.Proofs.Ytgfjbaigmkdbcaa
open Go.RowKit
set_option maxRecDepth 100000
set_option maxHeartbeats 8000000

theorem fnd_ge (ps : List PartM) (kind : Int) : -1 ≤ fnd ps kind := by unfold fnd; split <;> omega
theorem fnd_lt {ps : List PartM} {kind : Int} {K : Nat} (h : fnd ps kind = (K : Int)) : K < ps.length := by
  unfold fnd at h
  split at h
  · rename_i i hi
    obtain rfl : i = K := by omega
    exact (List.findIdx?_eq_some_iff_getElem.1 hi).1
  · omega
/-- A need is met: no part needs it, or there is a part of its kind in a version of the range. -/
abbrev metN (ps : List PartM) (q : NeedM) : Prop := fnd ps q.o < 0 ∨ ¬ fnd ps q.k < 0 ∧ q.f ≤ (ps.getD (fnd ps q.k).toNat pz).v ∧ (ps.getD (fnd ps q.k).toNat pz).v ≤ q.t
abbrev mtsP (ps : List PartM) (ns : List NeedM) : Prop := ∀ i, i < ns.length → metN ps (ns.getD i nz)
def mts (ps : List PartM) (ns : List NeedM) : Bool := decide (mtsP ps ns)
theorem spec8meets (d n f : Int) (pa : Option Addr) (pn pc : Nat) (ps : List PartM) (na : Option Addr) (nn nc : Nat) (ns : List NeedM) (w : World) (hp : Ps w pa pn pc ps) (hn : Ns w na nn nc ns) (hl : pn ≤ 1000000) (hm : nn ≤ 1000000) :
    Calls Try.prog 95 #[.agg #[.int .i64 d, .int .i64 n, .int .i64 f, .slice pa pn pc, .slice na nn nc]] w fun e w' => e = .returned (.bool (mts ps ns)) ∧ Below w.heap.size w w' := by
  obtain ⟨R, hR, HT, HF⟩ := by_dec (mtsP ps ns)
  rw [show mts ps ns = R from hR]
  clear hR
  have lp := hp.2.1
  have ln := hn.2.1
  obtain ⟨W, hW⟩ : ∃ W, W = w.alloc (.cells #[.int .i64 d, .int .i64 n, .int .i64 f, .slice pa pn pc, .slice na nn nc] 31) := ⟨_, rfl⟩
  have A : Arr W w.heap.size 31 [.int .i64 d, .int .i64 n, .int .i64 f, .slice pa pn pc, .slice na nn nc] := by rw [hW]; exact Arr.new _ _ _
  have Bl : Below w.heap.size w W := by rw [hW]; exact (Below.refl _ _).alloc (Nat.le_refl _) _
  have HPs : Hid (Ps w pa pn pc ps) := hp
  have HNs : Hid (Ns w na nn nc ns) := hn
  clear hp hn
  go_enter Try.func95, Try.ntmps95
  go_upto_region 1 with fail
  rw [← hW]
  clear hW
  go_wp2
  go_loopw [3] (fun i wr => ∃ k : Nat, k ≤ nn ∧ i = .int .i64 k ∧ Hid (∀ j, j < k → metN ps (ns.getD j nz)) ∧ Arr wr w.heap.size 31 [.int .i64 d, .int .i64 n, .int .i64 f, .slice pa pn pc, .slice na nn nc] ∧ Below w.heap.size w wr) (fun i _ => nn - (intOf i).toNat)
  case atStart => exact ⟨0, by omega, rfl, (fun j hj => by omega), A, Bl⟩
  case round =>
    clear A Bl
    obtain ⟨k, hk, rfl, HN, A, Bl⟩ := hrel
    have c4 := A.cell 4
    simp at c4
    by_cases hlt : (k : Int) < (nn : Int)
    · obtain ⟨b, o, rfl, hbs, hcell⟩ : ∃ b o, na = some ⟨b, o, none⟩ ∧ b < wr.heap.size ∧ ∀ i, i < nn → NeedAt wr b (o + i * 4) (ns.getD i nz) := by
        rcases (HNs.out.below Bl).2.2.2 with hq | hq
        · omega
        · exact hq
      have P := hcell k (by omega)
      obtain ⟨p, ep⟩ : ∃ p, p = ns.getD k nz := ⟨_, rfl⟩
      rw [← ep] at P
      obtain ⟨no, nf, nt, nk⟩ := p
      obtain ⟨q1, q2, q3, q4⟩ := P
      simp only [] at q1 q2 q3 q4
      have HE : Hid _ := ep
      have hk0 : (0 : Int) ≤ (k : Int) := by omega
      clear ep hcell
      have hal := A.lt
      go_upto_region 5 with fail
      obtain ⟨Z, hZ⟩ : ∃ Z, Z = wr.alloc (.cells #[.int .i64 no, .int .i64 nf, .int .i64 nt, .int .i64 nk] 115) := ⟨_, rfl⟩
      have bV : Below wr.heap.size wr Z := by rw [hZ]; exact (Below.refl _ _).alloc (Nat.le_refl _) _
      have D : Arr Z wr.heap.size 115 [.int .i64 no, .int .i64 nf, .int .i64 nt, .int .i64 nk] := by rw [hZ]; exact Arr.new _ _ _
      rw [← hZ]
      obtain ⟨X, hX⟩ : ∃ X, X = wr.heap.size := ⟨_, rfl⟩
      rw [← hX] at D hal ⊢
      replace A := A.kept bV
      replace Bl := Bl.trans (bV.mono Bl.size)
      clear hZ hX bV q1 q2 q3 q4 c4 hbs
      have c0 := A.cell 0
      have c1 := A.cell 1
      have c2 := A.cell 2
      have c3 := A.cell 3
      have c4 := A.cell 4
      have d0 := D.cell 0
      simp at c0 c1 c2 c3 c4 d0
      go_wp2_with fail
      refine (spec8find d n f pa pn pc ps _ nn nc no _ (HPs.out.below Bl) hl).mono ?_
      rintro e w2 ⟨rfl, b2⟩
      obtain ⟨F1, hF1⟩ : ∃ F, F = fnd ps no := ⟨_, rfl⟩
      rw [← hF1]
      have HF1 : Hid _ := hF1
      replace A := A.kept b2
      replace D := D.kept b2
      replace Bl := Bl.trans (b2.mono Bl.size)
      clear c0 c1 c2 c3 c4 d0 hF1 b2
      by_cases hf1 : F1 < 0
      · have HN2 : Hid (∀ j, j < k + 1 → metN ps (ns.getD j nz)) := by
          unfold Hid; intro j hj
          by_cases hjk : j = k
          · subst hjk
            rw [← HE.out]
            exact .inl (by rw [← HF1.out]; exact hf1)
          · exact HN.out j (by omega)
        go_wp2
        go_roundw
        case rel => exact ⟨k + 1, by omega, by go_num, HN2, A, Bl⟩
        case measure => simp [intOf]; omega
      · have c0 := A.cell 0
        have c1 := A.cell 1
        have c2 := A.cell 2
        have c3 := A.cell 3
        have c4 := A.cell 4
        have d3 := D.cell 3
        simp at c0 c1 c2 c3 c4 d3
        go_wp2_with fail
        refine (spec8find d n f pa pn pc ps _ nn nc nk _ (HPs.out.below Bl) hl).mono ?_
        rintro e w3 ⟨rfl, b3⟩
        obtain ⟨F2, hF2⟩ : ∃ F, F = fnd ps nk := ⟨_, rfl⟩
        rw [← hF2]
        have HF2 : Hid _ := hF2
        replace A := A.kept b3
        replace D := D.kept b3
        replace Bl := Bl.trans (b3.mono Bl.size)
        clear c0 c1 c2 c3 c4 d3 hF2 b3
        have c3 := A.cell 3
        simp at c3
        by_cases hf2 : F2 < 0
        · have HNo : Hid (R = false) := HF.out (fun h => by
            have h2 := h k (by omega)
            rw [← HE.out] at h2
            simp only [metN, ← HF1.out, ← HF2.out] at h2
            rcases h2 with h2 | h2
            · omega
            · exact h2.1 hf2)
          go_upto_region 7 with fail
          try simp only [Act.put]
          refine tameG [kc 27 (.int .i64 F2), kc 28 (.bool true), kc 29 (.bool true), kc 30 (undef), kc 31 (undef), kc 32 (undef), kc 33 (undef), kc 34 (undef), kc 35 (undef), kc 36 (undef), kc 37 (undef), kc 38 (undef), kc 39 (.bool true), kc 40 (.bool true), kc 41 (undef), kc 42 (undef), kc 43 (undef), kc 44 (undef), kc 45 (undef), kc 46 (undef), kc 47 (undef), kc 48 (undef), kc 49 (undef), kc 50 (.bool true)] 24 (by kernel_rfl) (by kernel_rfl) (by kernel_rfl) (by repeat' first | exact trivial | apply kc_keeps | constructor) 0 (by kernel_rfl) (fun vv ll hh yW bW => ?_) (fun vv ll hh yW bW F ivh aph => ?_)
          · skip
            refine ⟨og (tp (by kernel_rfl)) (by kernel_rfl), og (tp ?_) (by kernel_rfl), og (tp (by kernel_rfl)) (by kernel_rfl), ou (by kernel_rfl), ou (by kernel_rfl), ou (by kernel_rfl), ou (by kernel_rfl), ou (by kernel_rfl), ou (by kernel_rfl), ou (by kernel_rfl), ou (by kernel_rfl), ou (by kernel_rfl), og (tp (by kernel_rfl)) (by kernel_rfl), og (tp (by kernel_rfl)) (by kernel_rfl), ou (by kernel_rfl), ou (by kernel_rfl), ou (by kernel_rfl), ou (by kernel_rfl), ou (by kernel_rfl), ou (by kernel_rfl), ou (by kernel_rfl), ou (by kernel_rfl), ou (by kernel_rfl), og (tp (by kernel_rfl)) (by kernel_rfl), trivial⟩
            all_goals
              simp only [fillK, putT, List.setIfInBounds_toArray, List.set_cons_zero, List.set_cons_succ]
              unfold execOp
              go_simp
          clear F ivh aph
          obtain ⟨y, hy⟩ : ∃ z, z = yW := ⟨_, rfl⟩
          rw [← hy] at bW ⊢
          clear hy
          refine wpAny_done (by kernel_rfl) ?_ _
          simp only [fillK, putT, List.setIfInBounds_toArray, List.set_cons_zero, List.set_cons_succ]
          go_wp2
          go_ret
          exact ⟨by rw [HNo.out]; rfl, Bl.trans (bW.mono Bl.size)⟩
        · obtain ⟨K, hK⟩ := Int.eq_ofNat_of_zero_le (show 0 ≤ F2 by omega)
          subst hK
          have hKl : K < pn := by have := fnd_lt HF2.out.symm; omega
          obtain ⟨b2, o2, rfl, hb2, hcl⟩ : ∃ b o, pa = some ⟨b, o, none⟩ ∧ b < w3.heap.size ∧ ∀ i, i < pn → ∃ ha hc, PartAt w3 b (o + i * 4) (ps.getD i pz) ha hc := by
            rcases (HPs.out.below Bl).2.2.2 with hq | hq
            · omega
            · exact hq
          obtain ⟨ha, hc, P⟩ := hcl K hKl
          obtain ⟨v, hv⟩ : ∃ v, v = (ps.getD K pz).v := ⟨_, rfl⟩
          have q2 : w3.cell? ⟨b2, o2 + K * 4 + 1, none⟩ = some (.int .i64 v) := by rw [hv]; exact P.v
          have HV : Hid _ := hv
          have hK0 : (0 : Int) ≤ (K : Int) := by omega
          have hKi : (K : Int) < (pn : Int) := by omega
          have e1 := D.cell 1
          have e2 := D.cell 2
          simp at e1 e2
          clear hcl P hv hf2
          by_cases h1 : v < nf
          · have HNo : Hid (R = false) := HF.out (fun h => by
              have h2 := h k (by omega)
              rw [← HE.out] at h2
              simp only [metN, ← HF1.out, ← HF2.out] at h2
              rcases h2 with h2 | h2
              · omega
              · have h3 := h2.2.1
                rw [Int.toNat_natCast, ← HV.out] at h3
                omega)
            go_upto_region 7 with fail
            try simp only [Act.put]
            refine tameG [kc 27 (.int .i64 (K : Int)), kc 28 (.bool false), kc 29 (.bool false), kc 30 (.pointer (some ⟨w.heap.size, 3, none⟩)), kc 31 (.slice (some ⟨b2, o2, none⟩) pn pc), kc 32 (.int .i64 (K : Int)), kc 33 (.pointer (some ⟨b2, o2 + K * 4, none⟩)), kc 34 (.pointer (some ⟨b2, o2 + K * 4 + 1, none⟩)), kc 35 (.int .i64 v), kc 36 (.pointer (some ⟨X, 1, none⟩)), kc 37 (.int .i64 nf), kc 38 (.bool true), kc 39 (.bool true), kc 40 (.bool true), kc 41 (undef), kc 42 (undef), kc 43 (undef), kc 44 (undef), kc 45 (undef), kc 46 (undef), kc 47 (undef), kc 48 (undef), kc 49 (undef), kc 50 (.bool true)] 24 (by kernel_rfl) (by kernel_rfl) (by kernel_rfl) (by repeat' first | exact trivial | apply kc_keeps | constructor) 0 (by kernel_rfl) (fun vv ll hh yW bW => ?_) (fun vv ll hh yW bW F ivh aph => ?_)
            · have x3 := (bW.cell (p := ⟨w.heap.size, 3, none⟩) A.lt).trans c3
              have x4 := (bW.cell (p := ⟨b2, _, none⟩) hb2).trans q2
              have x5 := (bW.cell (p := ⟨X, 1, none⟩) D.lt).trans e1
              have x6 := (bW.cell (p := ⟨X, 2, none⟩) D.lt).trans e2
              refine ⟨og (tp (by kernel_rfl)) (by kernel_rfl), og (tp ?_) (by kernel_rfl), og (tp (by kernel_rfl)) (by kernel_rfl), og (tp (by kernel_rfl)) (by kernel_rfl), og (tp ?_) (by kernel_rfl), og (tp (by kernel_rfl)) (by kernel_rfl), og (tp ?_) (by kernel_rfl), og (tp ?_) (by kernel_rfl), og (tp ?_) (by kernel_rfl), og (tp (by kernel_rfl)) (by kernel_rfl), og (tp ?_) (by kernel_rfl), og (tp ?_) (by kernel_rfl), og (tp (by kernel_rfl)) (by kernel_rfl), og (tp (by kernel_rfl)) (by kernel_rfl), ou (by kernel_rfl), ou (by kernel_rfl), ou (by kernel_rfl), ou (by kernel_rfl), ou (by kernel_rfl), ou (by kernel_rfl), ou (by kernel_rfl), ou (by kernel_rfl), ou (by kernel_rfl), og (tp (by kernel_rfl)) (by kernel_rfl), trivial⟩
              all_goals
                simp only [fillK, putT, List.setIfInBounds_toArray, List.set_cons_zero, List.set_cons_succ]
                unfold execOp
                go_simp
            clear F ivh aph
            obtain ⟨y, hy⟩ : ∃ z, z = yW := ⟨_, rfl⟩
            rw [← hy] at bW ⊢
            clear hy
            refine wpAny_done (by kernel_rfl) ?_ _
            simp only [fillK, putT, List.setIfInBounds_toArray, List.set_cons_zero, List.set_cons_succ]
            go_wp2
            go_ret
            exact ⟨by rw [HNo.out]; rfl, Bl.trans (bW.mono Bl.size)⟩
          by_cases h2 : nt < v
          · have HNo : Hid (R = false) := HF.out (fun h => by
              have h2 := h k (by omega)
              rw [← HE.out] at h2
              simp only [metN, ← HF1.out, ← HF2.out] at h2
              rcases h2 with h2 | h2
              · omega
              · have h3 := h2.2.2
                rw [Int.toNat_natCast, ← HV.out] at h3
                omega)
            go_upto_region 7 with fail
            try simp only [Act.put]
            refine tameG [kc 27 (.int .i64 (K : Int)), kc 28 (.bool false), kc 29 (.bool false), kc 30 (.pointer (some ⟨w.heap.size, 3, none⟩)), kc 31 (.slice (some ⟨b2, o2, none⟩) pn pc), kc 32 (.int .i64 (K : Int)), kc 33 (.pointer (some ⟨b2, o2 + K * 4, none⟩)), kc 34 (.pointer (some ⟨b2, o2 + K * 4 + 1, none⟩)), kc 35 (.int .i64 v), kc 36 (.pointer (some ⟨X, 1, none⟩)), kc 37 (.int .i64 nf), kc 38 (.bool false), kc 39 (.bool false), kc 40 (.bool false), kc 41 (.pointer (some ⟨w.heap.size, 3, none⟩)), kc 42 (.slice (some ⟨b2, o2, none⟩) pn pc), kc 43 (.int .i64 (K : Int)), kc 44 (.pointer (some ⟨b2, o2 + K * 4, none⟩)), kc 45 (.pointer (some ⟨b2, o2 + K * 4 + 1, none⟩)), kc 46 (.int .i64 v), kc 47 (.pointer (some ⟨X, 2, none⟩)), kc 48 (.int .i64 nt), kc 49 (.bool true), kc 50 (.bool true)] 24 (by kernel_rfl) (by kernel_rfl) (by kernel_rfl) (by repeat' first | exact trivial | apply kc_keeps | constructor) 0 (by kernel_rfl) (fun vv ll hh yW bW => ?_) (fun vv ll hh yW bW F ivh aph => ?_)
            · have x3 := (bW.cell (p := ⟨w.heap.size, 3, none⟩) A.lt).trans c3
              have x4 := (bW.cell (p := ⟨b2, _, none⟩) hb2).trans q2
              have x5 := (bW.cell (p := ⟨X, 1, none⟩) D.lt).trans e1
              have x6 := (bW.cell (p := ⟨X, 2, none⟩) D.lt).trans e2
              refine ⟨og (tp (by kernel_rfl)) (by kernel_rfl), og (tp ?_) (by kernel_rfl), og (tp (by kernel_rfl)) (by kernel_rfl), og (tp (by kernel_rfl)) (by kernel_rfl), og (tp ?_) (by kernel_rfl), og (tp (by kernel_rfl)) (by kernel_rfl), og (tp ?_) (by kernel_rfl), og (tp ?_) (by kernel_rfl), og (tp ?_) (by kernel_rfl), og (tp (by kernel_rfl)) (by kernel_rfl), og (tp ?_) (by kernel_rfl), og (tp ?_) (by kernel_rfl), og (tp (by kernel_rfl)) (by kernel_rfl), og (tp (by kernel_rfl)) (by kernel_rfl), og (tp (by kernel_rfl)) (by kernel_rfl), og (tp ?_) (by kernel_rfl), og (tp (by kernel_rfl)) (by kernel_rfl), og (tp ?_) (by kernel_rfl), og (tp ?_) (by kernel_rfl), og (tp ?_) (by kernel_rfl), og (tp (by kernel_rfl)) (by kernel_rfl), og (tp ?_) (by kernel_rfl), og (tp ?_) (by kernel_rfl), og (tp (by kernel_rfl)) (by kernel_rfl), trivial⟩
              all_goals
                simp only [fillK, putT, List.setIfInBounds_toArray, List.set_cons_zero, List.set_cons_succ]
                unfold execOp
                go_simp
            clear F ivh aph
            obtain ⟨y, hy⟩ : ∃ z, z = yW := ⟨_, rfl⟩
            rw [← hy] at bW ⊢
            clear hy
            refine wpAny_done (by kernel_rfl) ?_ _
            simp only [fillK, putT, List.setIfInBounds_toArray, List.set_cons_zero, List.set_cons_succ]
            go_wp2
            go_ret
            exact ⟨by rw [HNo.out]; rfl, Bl.trans (bW.mono Bl.size)⟩
          · have HN2 : Hid (∀ j, j < k + 1 → metN ps (ns.getD j nz)) := by
              unfold Hid; intro j hj
              by_cases hjk : j = k
              · subst hjk
                rw [← HE.out]
                refine .inr ?_
                simp only [← HF2.out, Int.toNat_natCast, ← HV.out]
                exact ⟨by omega, by omega, by omega⟩
              · exact HN.out j (by omega)
            go_upto_region 7 with fail
            try simp only [Act.put]
            refine tameG [kc 27 (.int .i64 (K : Int)), kc 28 (.bool false), kc 29 (.bool false), kc 30 (.pointer (some ⟨w.heap.size, 3, none⟩)), kc 31 (.slice (some ⟨b2, o2, none⟩) pn pc), kc 32 (.int .i64 (K : Int)), kc 33 (.pointer (some ⟨b2, o2 + K * 4, none⟩)), kc 34 (.pointer (some ⟨b2, o2 + K * 4 + 1, none⟩)), kc 35 (.int .i64 v), kc 36 (.pointer (some ⟨X, 1, none⟩)), kc 37 (.int .i64 nf), kc 38 (.bool false), kc 39 (.bool false), kc 40 (.bool false), kc 41 (.pointer (some ⟨w.heap.size, 3, none⟩)), kc 42 (.slice (some ⟨b2, o2, none⟩) pn pc), kc 43 (.int .i64 (K : Int)), kc 44 (.pointer (some ⟨b2, o2 + K * 4, none⟩)), kc 45 (.pointer (some ⟨b2, o2 + K * 4 + 1, none⟩)), kc 46 (.int .i64 v), kc 47 (.pointer (some ⟨X, 2, none⟩)), kc 48 (.int .i64 nt), kc 49 (.bool false), kc 50 (.bool false)] 24 (by kernel_rfl) (by kernel_rfl) (by kernel_rfl) (by repeat' first | exact trivial | apply kc_keeps | constructor) 0 (by kernel_rfl) (fun vv ll hh yW bW => ?_) (fun vv ll hh yW bW F ivh aph => ?_)
            · have x3 := (bW.cell (p := ⟨w.heap.size, 3, none⟩) A.lt).trans c3
              have x4 := (bW.cell (p := ⟨b2, _, none⟩) hb2).trans q2
              have x5 := (bW.cell (p := ⟨X, 1, none⟩) D.lt).trans e1
              have x6 := (bW.cell (p := ⟨X, 2, none⟩) D.lt).trans e2
              refine ⟨og (tp (by kernel_rfl)) (by kernel_rfl), og (tp ?_) (by kernel_rfl), og (tp (by kernel_rfl)) (by kernel_rfl), og (tp (by kernel_rfl)) (by kernel_rfl), og (tp ?_) (by kernel_rfl), og (tp (by kernel_rfl)) (by kernel_rfl), og (tp ?_) (by kernel_rfl), og (tp ?_) (by kernel_rfl), og (tp ?_) (by kernel_rfl), og (tp (by kernel_rfl)) (by kernel_rfl), og (tp ?_) (by kernel_rfl), og (tp ?_) (by kernel_rfl), og (tp (by kernel_rfl)) (by kernel_rfl), og (tp (by kernel_rfl)) (by kernel_rfl), og (tp (by kernel_rfl)) (by kernel_rfl), og (tp ?_) (by kernel_rfl), og (tp (by kernel_rfl)) (by kernel_rfl), og (tp ?_) (by kernel_rfl), og (tp ?_) (by kernel_rfl), og (tp ?_) (by kernel_rfl), og (tp (by kernel_rfl)) (by kernel_rfl), og (tp ?_) (by kernel_rfl), og (tp ?_) (by kernel_rfl), og (tp (by kernel_rfl)) (by kernel_rfl), trivial⟩
              all_goals
                simp only [fillK, putT, List.setIfInBounds_toArray, List.set_cons_zero, List.set_cons_succ]
                unfold execOp
                go_simp
            clear F ivh aph
            obtain ⟨y, hy⟩ : ∃ z, z = yW := ⟨_, rfl⟩
            rw [← hy] at bW ⊢
            clear hy
            refine wpAny_done (by kernel_rfl) ?_ _
            simp only [fillK, putT, List.setIfInBounds_toArray, List.set_cons_zero, List.set_cons_succ]
            replace Bl := Bl.trans (bW.mono Bl.size)
            replace A := A.kept bW
            go_wp2
            go_roundw
            case rel => exact ⟨k + 1, by omega, by go_num, HN2, A, Bl⟩
            case measure => simp [intOf]; omega
    · have HRT : Hid (R = true) := HT.out (fun i hi => HN.out i (by omega))
      go_wp2
      go_ret
      exact ⟨by rw [HRT.out]; rfl, Bl⟩
end Go.Proofs.Ytgfjbaigmkdbcaa
namespace Go.Proofs.Ytgfjbaigmkdbcaa
open Go.RowKit
set_option maxRecDepth 100000
set_option maxHeartbeats 2000000

/-- It is a bundle, and meets its needs. -/
def mtB (B : BunM) : Bool := bOk B && mts B.ps B.ns
theorem spec8Meets (pa : Option Addr) (pn pc : Nat) (na : Option Addr) (nn nc : Nat) (B : BunM) (w : World) (hp : Ps w pa pn pc B.ps) (hn : Ns w na nn nc B.ns) :
    Calls Try.prog 26 #[.agg #[.int .i64 B.d, .int .i64 B.n, .int .i64 B.f, .slice pa pn pc, .slice na nn nc]] w fun e w' => e = .returned (.bool (mtB B)) ∧ Below w.heap.size w w' := by
  obtain ⟨W, hW⟩ : ∃ W, W = w.alloc (.cells #[.int .i64 B.d, .int .i64 B.n, .int .i64 B.f, .slice pa pn pc, .slice na nn nc] 31) := ⟨_, rfl⟩
  have A : Arr W w.heap.size 31 [.int .i64 B.d, .int .i64 B.n, .int .i64 B.f, .slice pa pn pc, .slice na nn nc] := by rw [hW]; exact Arr.new _ _ _
  have Bl : Below w.heap.size w W := by rw [hW]; exact (Below.refl _ _).alloc (Nat.le_refl _) _
  have lp := hp.2.1
  have ln := hn.2.1
  have HB : Hid (∀ Z, Below w.heap.size w Z → Calls Try.prog 16 #[.agg #[.int .i64 B.d, .int .i64 B.n, .int .i64 B.f, .slice pa pn pc, .slice na nn nc]] Z fun e w' => e = .returned (.bool (bOk B)) ∧ Below Z.heap.size Z w') := by
    unfold Hid; intro Z hZ; exact spec8BundleOk pa pn pc na nn nc B Z (hp.below hZ) (hn.below hZ)
  obtain ⟨R, hR⟩ : ∃ R, R = mtB B := ⟨_, rfl⟩
  obtain ⟨q, hq⟩ : ∃ q, q = bOk B := ⟨_, rfl⟩
  rw [← hR]
  rw [← hq] at HB
  have HR : Hid (R = (q && mts B.ps B.ns)) := by unfold Hid; rw [hR, hq]; rfl
  have HL : Hid (q = true → pn ≤ 4 ∧ nn ≤ 8) := by
    unfold Hid; intro h; have := ((bOk_iff B).1 (hq.symm.trans h)).1; omega
  have HM : Hid (q = true → ∀ Z, Below w.heap.size w Z → Calls Try.prog 95 #[.agg #[.int .i64 B.d, .int .i64 B.n, .int .i64 B.f, .slice pa pn pc, .slice na nn nc]] Z fun e w' => e = .returned (.bool (mts B.ps B.ns)) ∧ Below Z.heap.size Z w') := by
    unfold Hid; intro h Z hZ
    have := HL.out h
    exact spec8meets B.d B.n B.f pa pn pc B.ps na nn nc B.ns Z (hp.below hZ) (hn.below hZ) (by omega) (by omega)
  obtain ⟨d, n, f, ps, ns⟩ := B
  simp only [] at *
  clear hR hq hp hn lp ln HL
  have c0 := A.cell 0
  have c1 := A.cell 1
  have c2 := A.cell 2
  have c3 := A.cell 3
  have c4 := A.cell 4
  simp at c0 c1 c2 c3 c4
  go_enter Try.func26, Try.ntmps26
  go_upto_region 1 with fail
  rw [← hW]
  clear hW
  go_wp2_with fail
  refine (HB.out _ Bl).mono ?_
  rintro e w1 ⟨rfl, b1⟩
  replace A := A.kept b1
  replace Bl := Bl.trans (b1.mono Bl.size)
  clear c0 c1 c2 c3 c4 b1 HB
  have c0 := A.cell 0
  have c1 := A.cell 1
  have c2 := A.cell 2
  have c3 := A.cell 3
  have c4 := A.cell 4
  simp at c0 c1 c2 c3 c4
  cases q with
  | false =>
    go_wp2
    go_ret
    exact ⟨by rw [HR.out]; rfl, Bl⟩
  | true =>
    go_wp2_with fail
    refine (HM.out (by simp) _ Bl).mono ?_
    rintro e w2 ⟨rfl, b2⟩
    have HR2 : Hid (R = mts ps ns) := by unfold Hid; rw [HR.out]; rfl
    obtain ⟨m, hm⟩ : ∃ m, m = mts ps ns := ⟨_, rfl⟩
    rw [← hm] at HR2 ⊢
    replace Bl := Bl.trans (b2.mono Bl.size)
    clear HR hm b2 c0 c1 c2 c3 c4 HM
    go_wp2
    go_ret
    exact ⟨by rw [HR2.out]; rfl, Bl⟩
end Go.Proofs.Ytgfjbaigmkdbcaa
namespace Go.Proofs.Ytgfjbaigmkdbcaa
open Go.RowKit
set_option maxRecDepth 100000
set_option maxHeartbeats 4000000
set_option linter.unusedVariables false

/-- The needs that the parts do not meet. -/
def lkN (ps : List PartM) (ns : List NeedM) : List NeedM := ns.filter fun q => !decide (metN ps q)
def lkB (B : BunM) : List NeedM := if bOk B = true then lkN B.ps B.ns else []
theorem lkN_snoc (ps : List PartM) (ns : List NeedM) (q : NeedM) : lkN ps (ns ++ [q]) = lkN ps ns ++ (if metN ps q then [] else [q]) := by
  unfold lkN
  rw [List.filter_append]
  by_cases h : metN ps q
  · have e : (!decide (metN ps q)) = false := by rw [decide_eq_true h]; rfl
    rw [if_pos h]
    simp only [List.filter_cons, List.filter_nil, e]
    rfl
  · have e : (!decide (metN ps q)) = true := by rw [decide_eq_false h]; rfl
    rw [if_neg h]
    simp only [List.filter_cons, List.filter_nil, e]
    rfl
theorem lkN_len (ps : List PartM) (ns : List NeedM) : (lkN ps ns).length ≤ ns.length := List.length_filter_le _ _
theorem lkB_len (B : BunM) : (lkB B).length ≤ 8 := by
  unfold lkB
  split
  · next h =>
    have := lkN_len B.ps B.ns
    have := ((bOk_iff B).1 h).1
    omega
  · simp
theorem mts_one (ps : List PartM) (q : NeedM) : mts ps [q] = decide (metN ps q) := by
  unfold mts
  congr 1
  apply propext
  constructor
  · intro h; simpa using h 0 (by simp)
  · intro h i hi
    have : i = 0 := by simpa using hi
    subst this
    simpa using h
theorem ns_one {W : World} {g : Nat} {q : NeedM} (A : Arr W g 115 [.int .i64 q.o, .int .i64 q.f, .int .i64 q.t, .int .i64 q.k]) : Ns W (some ⟨g, 0, none⟩) 1 1 [q] :=
  ⟨(fun h => by cases h), rfl, Nat.le_refl _, .inr ⟨g, 0, rfl, A.lt, fun i hi => by
    have : i = 0 := by omega
    subst this
    exact ⟨A.cell 0, A.cell 1, A.cell 2, A.cell 3⟩⟩⟩
theorem ns_snoc (ns : List NeedM) (k : Nat) (h : k < ns.length) : ns.take (k + 1) = ns.take k ++ [ns.getD k nz] := by
  rw [List.take_succ_eq_append_getElem h]; simp [h]
theorem FL_oneN : ∀ (xs : List Rc), ∀ u ∈ FL xs, u.oneCell' = true
  | [], u, h => by cases h
  | r :: t, u, h => by
    simp only [FL, List.mem_cons] at h
    rcases h with rfl | rfl | rfl | rfl | h
    · rfl
    · rfl
    · rfl
    · rfl
    · exact FL_oneN t u h
/-- append of one need onto a row of needs. -/
theorem run_app_nd (w : World) (base : Nat) (v : Value) (n : Nat) (xs : List Rc) (hown : w.ownsRow base 115 4 v n (FL xs)) (g c : Nat) (q : NeedM)
    (A : Arr w g 115 [.int .i64 q.o, .int .i64 q.f, .int .i64 q.t, .int .i64 q.k]) (hn : n ≤ 1048576) (hbase : base ≤ w.heap.size) :
    ∃ v' w', (Builtin.append_ #[29, 29] 29 #[v, .slice (some ⟨g, 0, none⟩) 1 c]).run Try.prog w = .ok v' w' ∧ w'.ownsRow base 115 4 v' (n + 1) (FL (xs ++ [nrc q])) ∧ w.grownBy w' v.ownBlock ∧ (v'.ownBlock = v.ownBlock ∨ v'.ownBlock = some w.heap.size) := by
  obtain ⟨i0, hi, hz0, hz1, hz2⟩ := info_parts (show (Try.prog.info? 115).map (fun i => (i.zero, i.size, i.bytes)) = some (some (rcV 0 0 0 0), 4, 32) by kernel_rfl)
  obtain ⟨v', w', h1, h2, h3, _, h5⟩ := run_append_own_at (P := Try.prog) w base 29 29 115 i0 (rcV 0 0 0 0) 4 32 Try.underlying29 hi hz0 hz1 hz2 rfl (by decide) v n (FL xs) hown ⟨g, 0, none⟩ 1 c (FL [nrc q]) rfl
    (fun j u hj => by
      rw [Addr.add_lit]
      have hj4 : j < 4 := by
        have := (List.getElem?_eq_some_iff.1 hj).1
        simpa [FL] using this
      rw [show (0 : Nat) + j = j by omega, A.cell j]
      exact hj)
    (FL_oneN _) (by unfold maxLen; omega) (by omega) hbase
  exact ⟨v', w', h1, by rw [FL_app]; exact h2, h3, h5⟩
theorem wpl_app_nd {w : World} {ops : Array Oper} {rest : List Oper} {o : Oper} {a : Act} {Q : Exit → Act → World → Prop} (hgd : o.guard = none) (s x : Operand)
    (ho : o.op = .call { callee := .builtin .append, args := #[s, x], argTypes := #[29, 29] }) (hty : o.type = 29)
    (base : Nat) (v : Value) (n : Nat) (xs : List Rc) (hs : a.eval s = v) (g c : Nat) (q : NeedM) (hx : a.eval x = .slice (some ⟨g, 0, none⟩) 1 c)
    (hown : w.ownsRow base 115 4 v n (FL xs)) (A : Arr w g 115 [.int .i64 q.o, .int .i64 q.f, .int .i64 q.t, .int .i64 q.k]) (hn : n ≤ 1048576) (hbase : base ≤ w.heap.size)
    (h : ∀ v' w', w'.ownsRow base 115 4 v' (n + 1) (FL (xs ++ [nrc q])) → w.grownBy w' v.ownBlock → wpList Try.prog ops Q rest (a.put o.dst v') w') :
    wpList Try.prog ops Q (o :: rest) a w := by
  refine wpList_plain hgd fun K hK => ?_
  obtain ⟨v', w', hr, h2, h3, h5⟩ := run_app_nd w base v n xs hown g c q A hn hbase
  rw [← hty] at hr
  unfold Oper.wp execOp
  simp only [ho, resolve, invoke, builtin, Sem.run_bind, Sem.run_pure, Result.andThen_ok, List.map_toArray, List.map_cons, List.map_nil, hs, hx]
  rw [hty] at hr ⊢
  simp only [hr]
  exact hK _ _ (h v' w' h2 h3)
end Go.Proofs.Ytgfjbaigmkdbcaa

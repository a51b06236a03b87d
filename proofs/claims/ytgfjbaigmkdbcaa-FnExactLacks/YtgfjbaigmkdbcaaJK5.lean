/-
  What is proved here: the contract of the specification's l8meets; what it is to meet needs as a plain fact; the contract of the specification's Meets; what stays where two blocks alone were written; no program is spoken of; how memory is kept while another part of it is written, and rows of their own; no program is spoken of; an int that fits is not wrapped; no program is spoken of.
-/
import Derived.Test.YtgfjbaigmkdbcaaBd
import Derived.Test.YtgfjbaigmkdbcaaJK1
import Derived.Deep.RegionHeld3
import Derived.BigRegion
namespace Go.Proofs.Ytgfjbaigmkdbcaa
open Go.RowKit
set_option maxRecDepth 100000
set_option maxHeartbeats 8000000

theorem fnd_ge (ps : List PartM) (kind : Int) : -1 ≤ fnd ps kind := by unfold fnd; split <;> omega
theorem fnd_lt {ps : List PartM} {kind : Int} {K : Nat} (h : fnd ps kind = (K : Int)) : K < ps.length := by
  unfold fnd at h
  split at h
  · rename_i i hi
    obtain rfl : i = K := by omega
    exact (List.findIdx?_eq_some_iff_getElem.1 hi).1
  · omega
/-- A need is met: no part needs it, or there is a part of its kind in a version of the range. -/
abbrev metN (ps : List PartM) (q : NeedM) : Prop := fnd ps q.o < 0 ∨ ¬ fnd ps q.k < 0 ∧ q.f ≤ (ps.getD (fnd ps q.k).toNat pz).v ∧ (ps.getD (fnd ps q.k).toNat pz).v ≤ q.t
abbrev mtsP (ps : List PartM) (ns : List NeedM) : Prop := ∀ i, i < ns.length → metN ps (ns.getD i nz)
def mts (ps : List PartM) (ns : List NeedM) : Bool := decide (mtsP ps ns)
theorem spec8meets (d n f : Int) (pa : Option Addr) (pn pc : Nat) (ps : List PartM) (na : Option Addr) (nn nc : Nat) (ns : List NeedM) (w : World) (hp : Ps w pa pn pc ps) (hn : Ns w na nn nc ns) (hl : pn ≤ 1000000) (hm : nn ≤ 1000000) :
    Calls Try.prog 95 #[.agg #[.int .i64 d, .int .i64 n, .int .i64 f, .slice pa pn pc, .slice na nn nc]] w fun e w' => e = .returned (.bool (mts ps ns)) ∧ Below w.heap.size w w' := by
  obtain ⟨R, hR, HT, HF⟩ := by_dec (mtsP ps ns)
  rw [show mts ps ns = R from hR]
  clear hR
  have lp := hp.2.1
  have ln := hn.2.1
  obtain ⟨W, hW⟩ : ∃ W, W = w.alloc (.cells #[.int .i64 d, .int .i64 n, .int .i64 f, .slice pa pn pc, .slice na nn nc] 31) := ⟨_, rfl⟩
  have A : Arr W w.heap.size 31 [.int .i64 d, .int .i64 n, .int .i64 f, .slice pa pn pc, .slice na nn nc] := by rw [hW]; exact Arr.new _ _ _
  have Bl : Below w.heap.size w W := by rw [hW]; exact (Below.refl _ _).alloc (Nat.le_refl _) _
  have HPs : Hid (Ps w pa pn pc ps) := hp
  have HNs : Hid (Ns w na nn nc ns) := hn
  clear hp hn
  go_enter Try.func95, Try.ntmps95
  go_upto_region 1 with fail
  rw [← hW]
  clear hW
  go_wp2
  go_loopw [3] (fun i wr => ∃ k : Nat, k ≤ nn ∧ i = .int .i64 k ∧ Hid (∀ j, j < k → metN ps (ns.getD j nz)) ∧ Arr wr w.heap.size 31 [.int .i64 d, .int .i64 n, .int .i64 f, .slice pa pn pc, .slice na nn nc] ∧ Below w.heap.size w wr) (fun i _ => nn - (intOf i).toNat)
  case atStart => exact ⟨0, by omega, rfl, (fun j hj => by omega), A, Bl⟩
  case round =>
    clear A Bl
    obtain ⟨k, hk, rfl, HN, A, Bl⟩ := hrel
    have c4 := A.cell 4
    simp at c4
    by_cases hlt : (k : Int) < (nn : Int)
    · obtain ⟨b, o, rfl, hbs, hcell⟩ : ∃ b o, na = some ⟨b, o, none⟩ ∧ b < wr.heap.size ∧ ∀ i, i < nn → NeedAt wr b (o + i * 4) (ns.getD i nz) := by
        rcases (HNs.out.below Bl).2.2.2 with hq | hq
        · omega
        · exact hq
      have P := hcell k (by omega)
      obtain ⟨p, ep⟩ : ∃ p, p = ns.getD k nz := ⟨_, rfl⟩
      rw [← ep] at P
      obtain ⟨no, nf, nt, nk⟩ := p
      obtain ⟨q1, q2, q3, q4⟩ := P
      simp only [] at q1 q2 q3 q4
      have HE : Hid _ := ep
      have hk0 : (0 : Int) ≤ (k : Int) := by omega
      clear ep hcell
      have hal := A.lt
      go_upto_region 5 with fail
      obtain ⟨Z, hZ⟩ : ∃ Z, Z = wr.alloc (.cells #[.int .i64 no, .int .i64 nf, .int .i64 nt, .int .i64 nk] 115) := ⟨_, rfl⟩
      have bV : Below wr.heap.size wr Z := by rw [hZ]; exact (Below.refl _ _).alloc (Nat.le_refl _) _
      have D : Arr Z wr.heap.size 115 [.int .i64 no, .int .i64 nf, .int .i64 nt, .int .i64 nk] := by rw [hZ]; exact Arr.new _ _ _
      rw [← hZ]
      obtain ⟨X, hX⟩ : ∃ X, X = wr.heap.size := ⟨_, rfl⟩
      rw [← hX] at D hal ⊢
      replace A := A.kept bV
      replace Bl := Bl.trans (bV.mono Bl.size)
      clear hZ hX bV q1 q2 q3 q4 c4 hbs
      have c0 := A.cell 0
      have c1 := A.cell 1
      have c2 := A.cell 2
      have c3 := A.cell 3
      have c4 := A.cell 4
      have d0 := D.cell 0
      simp at c0 c1 c2 c3 c4 d0
      go_wp2_with fail
      refine (spec8find d n f pa pn pc ps _ nn nc no _ (HPs.out.below Bl) hl).mono ?_
      rintro e w2 ⟨rfl, b2⟩
      obtain ⟨F1, hF1⟩ : ∃ F, F = fnd ps no := ⟨_, rfl⟩
      rw [← hF1]
      have HF1 : Hid _ := hF1
      replace A := A.kept b2
      replace D := D.kept b2
      replace Bl := Bl.trans (b2.mono Bl.size)
      clear c0 c1 c2 c3 c4 d0 hF1 b2
      by_cases hf1 : F1 < 0
      · have HN2 : Hid (∀ j, j < k + 1 → metN ps (ns.getD j nz)) := by
          unfold Hid; intro j hj
          by_cases hjk : j = k
          · subst hjk
            rw [← HE.out]
            exact .inl (by rw [← HF1.out]; exact hf1)
          · exact HN.out j (by omega)
        go_wp2
        go_roundw
        case rel => exact ⟨k + 1, by omega, by go_num, HN2, A, Bl⟩
        case measure => simp [intOf]; omega
      · have c0 := A.cell 0
        have c1 := A.cell 1
        have c2 := A.cell 2
        have c3 := A.cell 3
        have c4 := A.cell 4
        have d3 := D.cell 3
        simp at c0 c1 c2 c3 c4 d3
        go_wp2_with fail
        refine (spec8find d n f pa pn pc ps _ nn nc nk _ (HPs.out.below Bl) hl).mono ?_
        rintro e w3 ⟨rfl, b3⟩
        obtain ⟨F2, hF2⟩ : ∃ F, F = fnd ps nk := ⟨_, rfl⟩
        rw [← hF2]
        have HF2 : Hid _ := hF2
        replace A := A.kept b3
        replace D := D.kept b3
        replace Bl := Bl.trans (b3.mono Bl.size)
        clear c0 c1 c2 c3 c4 d3 hF2 b3
        have c3 := A.cell 3
        simp at c3
        by_cases hf2 : F2 < 0
        · have HNo : Hid (R = false) := HF.out (fun h => by
            have h2 := h k (by omega)
            rw [← HE.out] at h2
            simp only [metN, ← HF1.out, ← HF2.out] at h2
            rcases h2 with h2 | h2
            · omega
            · exact h2.1 hf2)
          go_upto_region 7 with fail
          try simp only [Act.put]
          refine tameG [kc 27 (.int .i64 F2), kc 28 (.bool true), kc 29 (.bool true), kc 30 (undef), kc 31 (undef), kc 32 (undef), kc 33 (undef), kc 34 (undef), kc 35 (undef), kc 36 (undef), kc 37 (undef), kc 38 (undef), kc 39 (.bool true), kc 40 (.bool true), kc 41 (undef), kc 42 (undef), kc 43 (undef), kc 44 (undef), kc 45 (undef), kc 46 (undef), kc 47 (undef), kc 48 (undef), kc 49 (undef), kc 50 (.bool true)] 24 (by kernel_rfl) (by kernel_rfl) (by kernel_rfl) (by repeat' first | exact trivial | apply kc_keeps | constructor) 0 (by kernel_rfl) (fun vv ll hh yW bW => ?_) (fun vv ll hh yW bW F ivh aph => ?_)
          · skip
            refine ⟨og (tp (by kernel_rfl)) (by kernel_rfl), og (tp ?_) (by kernel_rfl), og (tp (by kernel_rfl)) (by kernel_rfl), ou (by kernel_rfl), ou (by kernel_rfl), ou (by kernel_rfl), ou (by kernel_rfl), ou (by kernel_rfl), ou (by kernel_rfl), ou (by kernel_rfl), ou (by kernel_rfl), ou (by kernel_rfl), og (tp (by kernel_rfl)) (by kernel_rfl), og (tp (by kernel_rfl)) (by kernel_rfl), ou (by kernel_rfl), ou (by kernel_rfl), ou (by kernel_rfl), ou (by kernel_rfl), ou (by kernel_rfl), ou (by kernel_rfl), ou (by kernel_rfl), ou (by kernel_rfl), ou (by kernel_rfl), og (tp (by kernel_rfl)) (by kernel_rfl), trivial⟩
            all_goals
              simp only [fillK, putT, List.setIfInBounds_toArray, List.set_cons_zero, List.set_cons_succ]
              unfold execOp
              go_simp
          clear F ivh aph
          obtain ⟨y, hy⟩ : ∃ z, z = yW := ⟨_, rfl⟩
          rw [← hy] at bW ⊢
          clear hy
          refine wpAny_done (by kernel_rfl) ?_ _
          simp only [fillK, putT, List.setIfInBounds_toArray, List.set_cons_zero, List.set_cons_succ]
          go_wp2
          go_ret
          exact ⟨by rw [HNo.out]; rfl, Bl.trans (bW.mono Bl.size)⟩
        · obtain ⟨K, hK⟩ := Int.eq_ofNat_of_zero_le (show 0 ≤ F2 by omega)
          subst hK
          have hKl : K < pn := by have := fnd_lt HF2.out.symm; omega
          obtain ⟨b2, o2, rfl, hb2, hcl⟩ : ∃ b o, pa = some ⟨b, o, none⟩ ∧ b < w3.heap.size ∧ ∀ i, i < pn → ∃ ha hc, PartAt w3 b (o + i * 4) (ps.getD i pz) ha hc := by
            rcases (HPs.out.below Bl).2.2.2 with hq | hq
            · omega
            · exact hq
          obtain ⟨ha, hc, P⟩ := hcl K hKl
          obtain ⟨v, hv⟩ : ∃ v, v = (ps.getD K pz).v := ⟨_, rfl⟩
          have q2 : w3.cell? ⟨b2, o2 + K * 4 + 1, none⟩ = some (.int .i64 v) := by rw [hv]; exact P.v
          have HV : Hid _ := hv
          have hK0 : (0 : Int) ≤ (K : Int) := by omega
          have hKi : (K : Int) < (pn : Int) := by omega
          have e1 := D.cell 1
          have e2 := D.cell 2
          simp at e1 e2
          clear hcl P hv hf2
          by_cases h1 : v < nf
          · have HNo : Hid (R = false) := HF.out (fun h => by
              have h2 := h k (by omega)
              rw [← HE.out] at h2
              simp only [metN, ← HF1.out, ← HF2.out] at h2
              rcases h2 with h2 | h2
              · omega
              · have h3 := h2.2.1
                rw [Int.toNat_natCast, ← HV.out] at h3
                omega)
            go_upto_region 7 with fail
            try simp only [Act.put]
            refine tameG [kc 27 (.int .i64 (K : Int)), kc 28 (.bool false), kc 29 (.bool false), kc 30 (.pointer (some ⟨w.heap.size, 3, none⟩)), kc 31 (.slice (some ⟨b2, o2, none⟩) pn pc), kc 32 (.int .i64 (K : Int)), kc 33 (.pointer (some ⟨b2, o2 + K * 4, none⟩)), kc 34 (.pointer (some ⟨b2, o2 + K * 4 + 1, none⟩)), kc 35 (.int .i64 v), kc 36 (.pointer (some ⟨X, 1, none⟩)), kc 37 (.int .i64 nf), kc 38 (.bool true), kc 39 (.bool true), kc 40 (.bool true), kc 41 (undef), kc 42 (undef), kc 43 (undef), kc 44 (undef), kc 45 (undef), kc 46 (undef), kc 47 (undef), kc 48 (undef), kc 49 (undef), kc 50 (.bool true)] 24 (by kernel_rfl) (by kernel_rfl) (by kernel_rfl) (by repeat' first | exact trivial | apply kc_keeps | constructor) 0 (by kernel_rfl) (fun vv ll hh yW bW => ?_) (fun vv ll hh yW bW F ivh aph => ?_)
            · have x3 := (bW.cell (p := ⟨w.heap.size, 3, none⟩) A.lt).trans c3
              have x4 := (bW.cell (p := ⟨b2, _, none⟩) hb2).trans q2
              have x5 := (bW.cell (p := ⟨X, 1, none⟩) D.lt).trans e1
              have x6 := (bW.cell (p := ⟨X, 2, none⟩) D.lt).trans e2
              refine ⟨og (tp (by kernel_rfl)) (by kernel_rfl), og (tp ?_) (by kernel_rfl), og (tp (by kernel_rfl)) (by kernel_rfl), og (tp (by kernel_rfl)) (by kernel_rfl), og (tp ?_) (by kernel_rfl), og (tp (by kernel_rfl)) (by kernel_rfl), og (tp ?_) (by kernel_rfl), og (tp ?_) (by kernel_rfl), og (tp ?_) (by kernel_rfl), og (tp (by kernel_rfl)) (by kernel_rfl), og (tp ?_) (by kernel_rfl), og (tp ?_) (by kernel_rfl), og (tp (by kernel_rfl)) (by kernel_rfl), og (tp (by kernel_rfl)) (by kernel_rfl), ou (by kernel_rfl), ou (by kernel_rfl), ou (by kernel_rfl), ou (by kernel_rfl), ou (by kernel_rfl), ou (by kernel_rfl), ou (by kernel_rfl), ou (by kernel_rfl), ou (by kernel_rfl), og (tp (by kernel_rfl)) (by kernel_rfl), trivial⟩
              all_goals
                simp only [fillK, putT, List.setIfInBounds_toArray, List.set_cons_zero, List.set_cons_succ]
                unfold execOp
                go_simp
            clear F ivh aph
            obtain ⟨y, hy⟩ : ∃ z, z = yW := ⟨_, rfl⟩
            rw [← hy] at bW ⊢
            clear hy
            refine wpAny_done (by kernel_rfl) ?_ _
            simp only [fillK, putT, List.setIfInBounds_toArray, List.set_cons_zero, List.set_cons_succ]
            go_wp2
            go_ret
            exact ⟨by rw [HNo.out]; rfl, Bl.trans (bW.mono Bl.size)⟩
          by_cases h2 : nt < v
          · have HNo : Hid (R = false) := HF.out (fun h => by
              have h2 := h k (by omega)
              rw [← HE.out] at h2
              simp only [metN, ← HF1.out, ← HF2.out] at h2
              rcases h2 with h2 | h2
              · omega
              · have h3 := h2.2.2
                rw [Int.toNat_natCast, ← HV.out] at h3
                omega)
            go_upto_region 7 with fail
            try simp only [Act.put]
            refine tameG [kc 27 (.int .i64 (K : Int)), kc 28 (.bool false), kc 29 (.bool false), kc 30 (.pointer (some ⟨w.heap.size, 3, none⟩)), kc 31 (.slice (some ⟨b2, o2, none⟩) pn pc), kc 32 (.int .i64 (K : Int)), kc 33 (.pointer (some ⟨b2, o2 + K * 4, none⟩)), kc 34 (.pointer (some ⟨b2, o2 + K * 4 + 1, none⟩)), kc 35 (.int .i64 v), kc 36 (.pointer (some ⟨X, 1, none⟩)), kc 37 (.int .i64 nf), kc 38 (.bool false), kc 39 (.bool false), kc 40 (.bool false), kc 41 (.pointer (some ⟨w.heap.size, 3, none⟩)), kc 42 (.slice (some ⟨b2, o2, none⟩) pn pc), kc 43 (.int .i64 (K : Int)), kc 44 (.pointer (some ⟨b2, o2 + K * 4, none⟩)), kc 45 (.pointer (some ⟨b2, o2 + K * 4 + 1, none⟩)), kc 46 (.int .i64 v), kc 47 (.pointer (some ⟨X, 2, none⟩)), kc 48 (.int .i64 nt), kc 49 (.bool true), kc 50 (.bool true)] 24 (by kernel_rfl) (by kernel_rfl) (by kernel_rfl) (by repeat' first | exact trivial | apply kc_keeps | constructor) 0 (by kernel_rfl) (fun vv ll hh yW bW => ?_) (fun vv ll hh yW bW F ivh aph => ?_)
            · have x3 := (bW.cell (p := ⟨w.heap.size, 3, none⟩) A.lt).trans c3
              have x4 := (bW.cell (p := ⟨b2, _, none⟩) hb2).trans q2
              have x5 := (bW.cell (p := ⟨X, 1, none⟩) D.lt).trans e1
              have x6 := (bW.cell (p := ⟨X, 2, none⟩) D.lt).trans e2
              refine ⟨og (tp (by kernel_rfl)) (by kernel_rfl), og (tp ?_) (by kernel_rfl), og (tp (by kernel_rfl)) (by kernel_rfl), og (tp (by kernel_rfl)) (by kernel_rfl), og (tp ?_) (by kernel_rfl), og (tp (by kernel_rfl)) (by kernel_rfl), og (tp ?_) (by kernel_rfl), og (tp ?_) (by kernel_rfl), og (tp ?_) (by kernel_rfl), og (tp (by kernel_rfl)) (by kernel_rfl), og (tp ?_) (by kernel_rfl), og (tp ?_) (by kernel_rfl), og (tp (by kernel_rfl)) (by kernel_rfl), og (tp (by kernel_rfl)) (by kernel_rfl), og (tp (by kernel_rfl)) (by kernel_rfl), og (tp ?_) (by kernel_rfl), og (tp (by kernel_rfl)) (by kernel_rfl), og (tp ?_) (by kernel_rfl), og (tp ?_) (by kernel_rfl), og (tp ?_) (by kernel_rfl), og (tp (by kernel_rfl)) (by kernel_rfl), og (tp ?_) (by kernel_rfl), og (tp ?_) (by kernel_rfl), og (tp (by kernel_rfl)) (by kernel_rfl), trivial⟩
              all_goals
                simp only [fillK, putT, List.setIfInBounds_toArray, List.set_cons_zero, List.set_cons_succ]
                unfold execOp
                go_simp
            clear F ivh aph
            obtain ⟨y, hy⟩ : ∃ z, z = yW := ⟨_, rfl⟩
            rw [← hy] at bW ⊢
            clear hy
            refine wpAny_done (by kernel_rfl) ?_ _
            simp only [fillK, putT, List.setIfInBounds_toArray, List.set_cons_zero, List.set_cons_succ]
            go_wp2
            go_ret
            exact ⟨by rw [HNo.out]; rfl, Bl.trans (bW.mono Bl.size)⟩
          · have HN2 : Hid (∀ j, j < k + 1 → metN ps (ns.getD j nz)) := by
              unfold Hid; intro j hj
              by_cases hjk : j = k
              · subst hjk
                rw [← HE.out]
                refine .inr ?_
                simp only [← HF2.out, Int.toNat_natCast, ← HV.out]
                exact ⟨by omega, by omega, by omega⟩
              · exact HN.out j (by omega)
            go_upto_region 7 with fail
            try simp only [Act.put]
            refine tameG [kc 27 (.int .i64 (K : Int)), kc 28 (.bool false), kc 29 (.bool false), kc 30 (.pointer (some ⟨w.heap.size, 3, none⟩)), kc 31 (.slice (some ⟨b2, o2, none⟩) pn pc), kc 32 (.int .i64 (K : Int)), kc 33 (.pointer (some ⟨b2, o2 + K * 4, none⟩)), kc 34 (.pointer (some ⟨b2, o2 + K * 4 + 1, none⟩)), kc 35 (.int .i64 v), kc 36 (.pointer (some ⟨X, 1, none⟩)), kc 37 (.int .i64 nf), kc 38 (.bool false), kc 39 (.bool false), kc 40 (.bool false), kc 41 (.pointer (some ⟨w.heap.size, 3, none⟩)), kc 42 (.slice (some ⟨b2, o2, none⟩) pn pc), kc 43 (.int .i64 (K : Int)), kc 44 (.pointer (some ⟨b2, o2 + K * 4, none⟩)), kc 45 (.pointer (some ⟨b2, o2 + K * 4 + 1, none⟩)), kc 46 (.int .i64 v), kc 47 (.pointer (some ⟨X, 2, none⟩)), kc 48 (.int .i64 nt), kc 49 (.bool false), kc 50 (.bool false)] 24 (by kernel_rfl) (by kernel_rfl) (by kernel_rfl) (by repeat' first | exact trivial | apply kc_keeps | constructor) 0 (by kernel_rfl) (fun vv ll hh yW bW => ?_) (fun vv ll hh yW bW F ivh aph => ?_)
            · have x3 := (bW.cell (p := ⟨w.heap.size, 3, none⟩) A.lt).trans c3
              have x4 := (bW.cell (p := ⟨b2, _, none⟩) hb2).trans q2
              have x5 := (bW.cell (p := ⟨X, 1, none⟩) D.lt).trans e1
              have x6 := (bW.cell (p := ⟨X, 2, none⟩) D.lt).trans e2
              refine ⟨og (tp (by kernel_rfl)) (by kernel_rfl), og (tp ?_) (by kernel_rfl), og (tp (by kernel_rfl)) (by kernel_rfl), og (tp (by kernel_rfl)) (by kernel_rfl), og (tp ?_) (by kernel_rfl), og (tp (by kernel_rfl)) (by kernel_rfl), og (tp ?_) (by kernel_rfl), og (tp ?_) (by kernel_rfl), og (tp ?_) (by kernel_rfl), og (tp (by kernel_rfl)) (by kernel_rfl), og (tp ?_) (by kernel_rfl), og (tp ?_) (by kernel_rfl), og (tp (by kernel_rfl)) (by kernel_rfl), og (tp (by kernel_rfl)) (by kernel_rfl), og (tp (by kernel_rfl)) (by kernel_rfl), og (tp ?_) (by kernel_rfl), og (tp (by kernel_rfl)) (by kernel_rfl), og (tp ?_) (by kernel_rfl), og (tp ?_) (by kernel_rfl), og (tp ?_) (by kernel_rfl), og (tp (by kernel_rfl)) (by kernel_rfl), og (tp ?_) (by kernel_rfl), og (tp ?_) (by kernel_rfl), og (tp (by kernel_rfl)) (by kernel_rfl), trivial⟩
              all_goals
                simp only [fillK, putT, List.setIfInBounds_toArray, List.set_cons_zero, List.set_cons_succ]
                unfold execOp
                go_simp
            clear F ivh aph
            obtain ⟨y, hy⟩ : ∃ z, z = yW := ⟨_, rfl⟩
            rw [← hy] at bW ⊢
            clear hy
            refine wpAny_done (by kernel_rfl) ?_ _
            simp only [fillK, putT, List.setIfInBounds_toArray, List.set_cons_zero, List.set_cons_succ]
            replace Bl := Bl.trans (bW.mono Bl.size)
            replace A := A.kept bW
            go_wp2
            go_roundw
            case rel => exact ⟨k + 1, by omega, by go_num, HN2, A, Bl⟩
            case measure => simp [intOf]; omega
    · have HRT : Hid (R = true) := HT.out (fun i hi => HN.out i (by omega))
      go_wp2
      go_ret
      exact ⟨by rw [HRT.out]; rfl, Bl⟩
end Go.Proofs.Ytgfjbaigmkdbcaa
namespace Go.Proofs.Ytgfjbaigmkdbcaa
open Go.RowKit
set_option maxRecDepth 100000
set_option maxHeartbeats 2000000

/-- It is a bundle, and meets its needs. -/
def mtB (B : BunM) : Bool := bOk B && mts B.ps B.ns
theorem spec8Meets (pa : Option Addr) (pn pc : Nat) (na : Option Addr) (nn nc : Nat) (B : BunM) (w : World) (hp : Ps w pa pn pc B.ps) (hn : Ns w na nn nc B.ns) :
    Calls Try.prog 26 #[.agg #[.int .i64 B.d, .int .i64 B.n, .int .i64 B.f, .slice pa pn pc, .slice na nn nc]] w fun e w' => e = .returned (.bool (mtB B)) ∧ Below w.heap.size w w' := by
  obtain ⟨W, hW⟩ : ∃ W, W = w.alloc (.cells #[.int .i64 B.d, .int .i64 B.n, .int .i64 B.f, .slice pa pn pc, .slice na nn nc] 31) := ⟨_, rfl⟩
  have A : Arr W w.heap.size 31 [.int .i64 B.d, .int .i64 B.n, .int .i64 B.f, .slice pa pn pc, .slice na nn nc] := by rw [hW]; exact Arr.new _ _ _
  have Bl : Below w.heap.size w W := by rw [hW]; exact (Below.refl _ _).alloc (Nat.le_refl _) _
  have lp := hp.2.1
  have ln := hn.2.1
  have HB : Hid (∀ Z, Below w.heap.size w Z → Calls Try.prog 16 #[.agg #[.int .i64 B.d, .int .i64 B.n, .int .i64 B.f, .slice pa pn pc, .slice na nn nc]] Z fun e w' => e = .returned (.bool (bOk B)) ∧ Below Z.heap.size Z w') := by
    unfold Hid; intro Z hZ; exact spec8BundleOk pa pn pc na nn nc B Z (hp.below hZ) (hn.below hZ)
  obtain ⟨R, hR⟩ : ∃ R, R = mtB B := ⟨_, rfl⟩
  obtain ⟨q, hq⟩ : ∃ q, q = bOk B := ⟨_, rfl⟩
  rw [← hR]
  rw [← hq] at HB
  have HR : Hid (R = (q && mts B.ps B.ns)) := by unfold Hid; rw [hR, hq]; rfl
  have HL : Hid (q = true → pn ≤ 4 ∧ nn ≤ 8) := by
    unfold Hid; intro h; have := ((bOk_iff B).1 (hq.symm.trans h)).1; omega
  have HM : Hid (q = true → ∀ Z, Below w.heap.size w Z → Calls Try.prog 95 #[.agg #[.int .i64 B.d, .int .i64 B.n, .int .i64 B.f, .slice pa pn pc, .slice na nn nc]] Z fun e w' => e = .returned (.bool (mts B.ps B.ns)) ∧ Below Z.heap.size Z w') := by
    unfold Hid; intro h Z hZ
    have := HL.out h
    exact spec8meets B.d B.n B.f pa pn pc B.ps na nn nc B.ns Z (hp.below hZ) (hn.below hZ) (by omega) (by omega)
  obtain ⟨d, n, f, ps, ns⟩ := B
  simp only [] at *
  clear hR hq hp hn lp ln HL
  have c0 := A.cell 0
  have c1 := A.cell 1
  have c2 := A.cell 2
  have c3 := A.cell 3
  have c4 := A.cell 4
  simp at c0 c1 c2 c3 c4
  go_enter Try.func26, Try.ntmps26
  go_upto_region 1 with fail
  rw [← hW]
  clear hW
  go_wp2_with fail
  refine (HB.out _ Bl).mono ?_
  rintro e w1 ⟨rfl, b1⟩
  replace A := A.kept b1
  replace Bl := Bl.trans (b1.mono Bl.size)
  clear c0 c1 c2 c3 c4 b1 HB
  have c0 := A.cell 0
  have c1 := A.cell 1
  have c2 := A.cell 2
  have c3 := A.cell 3
  have c4 := A.cell 4
  simp at c0 c1 c2 c3 c4
  cases q with
  | false =>
    go_wp2
    go_ret
    exact ⟨by rw [HR.out]; rfl, Bl⟩
  | true =>
    go_wp2_with fail
    refine (HM.out (by simp) _ Bl).mono ?_
    rintro e w2 ⟨rfl, b2⟩
    have HR2 : Hid (R = mts ps ns) := by unfold Hid; rw [HR.out]; rfl
    obtain ⟨m, hm⟩ : ∃ m, m = mts ps ns := ⟨_, rfl⟩
    rw [← hm] at HR2 ⊢
    replace Bl := Bl.trans (b2.mono Bl.size)
    clear HR hm b2 c0 c1 c2 c3 c4 HM
    go_wp2
    go_ret
    exact ⟨by rw [HR2.out]; rfl, Bl⟩
end Go.Proofs.Ytgfjbaigmkdbcaa
namespace Go.Proofs.Ytgfjbaigmkdbcaa
open Go.RowKit

/-- Nothing old has turned but two blocks. -/
structure Gr2 (w w' : World) (r1 r2 : Option Nat) : Prop where
  os : w'.os = w.os
  tape : w'.tape = w.tape
  output : w'.output = w.output
  size : w.heap.size ≤ w'.heap.size
  block : ∀ i, i < w.heap.size → some i ≠ r1 → some i ≠ r2 → w'.heap[i]? = w.heap[i]?

theorem Gr2.below {w W W' : World} {r1 r2 : Option Nat} (h : Gr2 W W' r1 r2) (hb : Below w.heap.size w W) (h1 : ∀ k, r1 = some k → w.heap.size ≤ k) (h2 : ∀ k, r2 = some k → w.heap.size ≤ k) : Below w.heap.size w W' :=
  ⟨h.os.trans hb.os, h.tape.trans hb.tape, h.output.trans hb.output, Nat.le_trans hb.size h.size, fun i hi => (h.block i (Nat.lt_of_lt_of_le hi hb.size) (fun e => by have := h1 i e.symm; omega) (fun e => by have := h2 i e.symm; omega)).trans (hb.block i hi)⟩
theorem Gr2.own {W W' : World} {u1 u2 v : Value} {B e s n : Nat} {l : List Value} (h : Gr2 W W' u1.ownBlock u2.ownBlock) (ho : W.ownsRow B e s v n l) (a1 : Apart u1 v) (a2 : Apart u2 v) : W'.ownsRow B e s v n l := by
  refine ⟨ho.1, ?_⟩
  rcases ho.2 with hn | ⟨g, cap, cur, rfl, hg, hgg, rest⟩
  · exact .inl hn
  · refine .inr ⟨g, cap, cur, rfl, hg, ?_, rest⟩
    rw [h.block g (Array.getElem?_eq_some_iff.1 hgg).1 (fun e => a1 g e.symm rfl) (fun e => a2 g e.symm rfl)]
    exact hgg
theorem Gr2.arr {W W' : World} {r1 r2 : Option Nat} {g : Nat} {t : TypeId} {cs : List Value} (h : Gr2 W W' r1 r2) (ha : Arr W g t cs) (h1 : r1 ≠ some g) (h2 : r2 ≠ some g) : Arr W' g t cs := by
  unfold Arr
  rw [h.block g ha.lt (Ne.symm h1) (Ne.symm h2)]
  exact ha

theorem Gr2.cellsOf {W W' : World} {u1 u2 : Value} {a b g : Nat} {t : TypeId} {cs : List Value} (hg : Gr2 W W' u1.ownBlock u2.ownBlock) (h : Arr W g t cs) (i1 : In u1 a b) (i2 : In u2 a b) (hl : g < a ∨ b ≤ g) : Arr W' g t cs := hg.arr h (i1.ne hl) (i2.ne hl)
theorem grown_arr {W W' : World} {u : Value} {a b g : Nat} {t : TypeId} {cs : List Value} (hg : W.grownBy W' u.ownBlock) (h : Arr W g t cs) (i1 : In u a b) (hl : g < a ∨ b ≤ g) : Arr W' g t cs := by
  unfold Arr
  rw [hg.block g h.lt (fun e => i1.ne hl e.symm)]
  exact h
end Go.Proofs.Ytgfjbaigmkdbcaa
namespace Go.Proofs.Ytgfjbaigmkdbcaa
set_option maxRecDepth 100000
open Go.RowKit

/-- Nothing old has turned but what lies in an interval of blocks. -/
structure Chg (W W' : World) (a b : Nat) : Prop where
  os : W'.os = W.os
  tape : W'.tape = W.tape
  output : W'.output = W.output
  size : W.heap.size ≤ W'.heap.size
  block : ∀ i, i < W.heap.size → (i < a ∨ b ≤ i) → W'.heap[i]? = W.heap[i]?

theorem Chg.of_below {W W' : World} (h : Below W.heap.size W W') (a : Nat) : Chg W W' a a := ⟨h.os, h.tape, h.output, h.size, fun i hi _ => h.block i hi⟩
theorem Chg.of_gr2 {W W' : World} {u v : Value} {a b : Nat} (h : Gr2 W W' u.ownBlock v.ownBlock) (i1 : In u a b) (i2 : In v a b) : Chg W W' a b :=
  ⟨h.os, h.tape, h.output, h.size, fun i hi hj => h.block i hi (fun e => by have := i1 i e.symm; omega) (fun e => by have := i2 i e.symm; omega)⟩
theorem Chg.of_grown {W W' : World} {u : Value} {a b : Nat} (h : W.grownBy W' u.ownBlock) (i1 : In u a b) : Chg W W' a b :=
  ⟨h.os, h.tape, h.output, h.size, fun i hi hj => h.block i hi (fun e => by have := i1 i e.symm; omega)⟩
theorem Chg.alloc (W : World) (o : Obj) (a : Nat) : Chg W (W.alloc o) a a := .of_below ((Below.refl _ _).alloc (Nat.le_refl _) _) a
theorem Chg.bel {w W W' : World} {a b : Nat} (h : Chg W W' a b) (hb : Below w.heap.size w W) (hl : b ≤ a ∨ w.heap.size ≤ a) : Below w.heap.size w W' :=
  ⟨h.os.trans hb.os, h.tape.trans hb.tape, h.output.trans hb.output, Nat.le_trans hb.size h.size, fun i hi => (h.block i (Nat.lt_of_lt_of_le hi hb.size) (by omega)).trans (hb.block i hi)⟩
theorem Arr.chg {W W' : World} {a b g : Nat} {t : TypeId} {cs : List Value} (h : Arr W g t cs) (hc : Chg W W' a b) (hl : g < a ∨ b ≤ g) : Arr W' g t cs := by
  unfold Arr
  rw [hc.block g h.lt hl]
  exact h
theorem own_chg {W W' : World} {lo hi a b e s n : Nat} {v : Value} {l : List Value} (h : W.ownsRow lo e s v n l) (i : In v lo hi) (hc : Chg W W' a b) (hl : hi ≤ a ∨ b ≤ lo) : W'.ownsRow lo e s v n l := by
  refine ⟨h.1, ?_⟩
  rcases h.2 with hn | ⟨g, cap, cur, rfl, hg, hgg, rest⟩
  · exact .inl hn
  · refine .inr ⟨g, cap, cur, rfl, hg, ?_, rest⟩
    have := i g rfl
    rw [hc.block g (Array.getElem?_eq_some_iff.1 hgg).1 (by omega)]
    exact hgg

/-- A row within [lo, hi). -/
structure Ro (W : World) (lo hi e : Nat) (v : Value) (n : Nat) (l : List Value) : Prop where
  o : W.ownsRow lo e 1 v n l
  i : In v lo hi
  z : hi ≤ W.heap.size
section
variable {W W' : World} {lo hi e n : Nat} {v : Value} {l : List Value}
theorem Ro.new (o : W.ownsRow lo e 1 v n l) : Ro W lo W.heap.size e v n l := ⟨o, In.of o, Nat.le_refl _⟩
theorem Ro.chg (h : Ro W lo hi e v n l) {a b : Nat} (hc : Chg W W' a b) (hl : hi ≤ a ∨ b ≤ lo ∨ b ≤ a) : Ro W' lo hi e v n l := by
  by_cases hab : b ≤ a
  · have hc' : Chg W W' hi hi := ⟨hc.os, hc.tape, hc.output, hc.size, fun i hi _ => hc.block i hi (by omega)⟩
    exact ⟨own_chg h.o h.i hc' (by omega), h.i, Nat.le_trans h.z hc.size⟩
  · exact ⟨own_chg h.o h.i hc (by omega), h.i, Nat.le_trans h.z hc.size⟩
theorem Ro.marked (h : Ro W lo hi e v n l) {l' : List Value} (hg : W.grownBy W' v.ownBlock) (o : W'.ownsRow lo e 1 v n l') : Ro W' lo hi e v n l' := ⟨o, h.i, Nat.le_trans h.z hg.size⟩
theorem Ro.gr (h : Ro W lo hi e v n l) (hg : W.grownBy W' v.ownBlock) : Chg W W' lo hi := .of_grown hg h.i
end
end Go.Proofs.Ytgfjbaigmkdbcaa
namespace Go.Proofs.Ytgfjbaigmkdbcaa
open Go.RowKit

theorem wr64 {x : Int} (h : -9223372036854775808 ≤ x) (h1 : x ≤ 9223372036854775807) : IntKind.i64.wrap x = x := by simp [IntKind.wrap, IntKind.signed, IntKind.bits]; omega
end Go.Proofs.Ytgfjbaigmkdbcaa

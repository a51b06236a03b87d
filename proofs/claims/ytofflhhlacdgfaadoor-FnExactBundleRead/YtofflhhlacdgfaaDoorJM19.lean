/-
  What is proved here: the contract of the specification's BundleOk; the contract of the specification's l8meets; what it is to meet needs as a plain fact; the contract of the specification's Meets.
-/
import Derived.Test.YtofflhhlacdgfaaDoorJM17
import Derived.Test.YtofflhhlacdgfaaDoorTm
namespace Go.Proofs.YtofflhhlacdgfaaDoor
open Go.RowKit
set_option maxRecDepth 100000
set_option maxHeartbeats 8000000

theorem spec8BundleOk (pa : Option Addr) (pn pc : Nat) (na : Option Addr) (nn nc : Nat) (B : BunM) (w : World) (hp : Ps w pa pn pc B.ps) (hn : Ns w na nn nc B.ns) :
    Calls Tryd.prog 12 #[.agg #[.int .i64 B.d, .int .i64 B.n, .int .i64 B.f, .slice pa pn pc, .slice na nn nc]] w fun e w' => e = .returned (.bool (bOk B)) ∧ Below w.heap.size w w' := by
  obtain ⟨R, hR, HT, HF⟩ := bOk_dec B
  rw [hR]
  clear hR
  have lp := hp.2.1
  have ln := hn.2.1
  obtain ⟨d, n, f, ps, ns⟩ := B
  simp only [] at hp hn lp ln
  have HP : Hid (¬ ((0 ≤ d ∧ d ≤ 1000) ∧ (1 ≤ n ∧ n ≤ 1000) ∧ verOk f ∧ (1 ≤ ps.length ∧ ps.length ≤ 4) ∧ ns.length ≤ 8) → R = false) := fun h => HF.out (fun k => h k.1)
  obtain ⟨W, hW⟩ : ∃ W, W = w.alloc (.cells #[.int .i64 d, .int .i64 n, .int .i64 f, .slice pa pn pc, .slice na nn nc] 26) := ⟨_, rfl⟩
  have A : Arr W w.heap.size 26 [.int .i64 d, .int .i64 n, .int .i64 f, .slice pa pn pc, .slice na nn nc] := by rw [hW]; exact Arr.new _ _ _
  have Bl : Below w.heap.size w W := by rw [hW]; exact (Below.refl _ _).alloc (Nat.le_refl _) _
  have c0 := A.cell 0
  have c1 := A.cell 1
  have c2 := A.cell 2
  have c3 := A.cell 3
  have c4 := A.cell 4
  simp at c0 c1 c2 c3 c4
  go_enter Tryd.func12, Tryd.ntmps12
  go_upto_region 1 with fail
  rw [← hW]
  clear hW
  by_cases h1 : d < 0
  case pos => go_wp2; go_ret; exact ⟨by rw [HP.out (by omega)]; rfl, Bl⟩
  by_cases h2 : 1000 < d
  case pos => go_wp2; go_ret; exact ⟨by rw [HP.out (by omega)]; rfl, Bl⟩
  by_cases h3 : n < 1
  case pos => go_wp2; go_ret; exact ⟨by rw [HP.out (by omega)]; rfl, Bl⟩
  by_cases h4 : 1000 < n
  case pos => go_wp2; go_ret; exact ⟨by rw [HP.out (by omega)]; rfl, Bl⟩
  by_cases h5 : verOk f
  case neg =>
    go_wp2_with fail
    refine (spec8version f _).mono ?_
    rintro e w1 ⟨rfl, hw⟩
    rw [hw, decide_eq_false h5]
    go_wp2
    go_ret
    exact ⟨by rw [HP.out (by omega)]; rfl, Bl⟩
  have HV : Hid (Calls Tryd.prog 50 #[.int .i64 f] W fun e w' => e = .returned (.bool true) ∧ w' = W) := by unfold Hid; have := spec8version f W; rw [decide_eq_true h5] at this; exact this
  by_cases h6 : (pn : Int) < 1
  case pos =>
    go_wp2_with fail
    refine HV.out.mono ?_
    rintro e w1 ⟨rfl, hw⟩
    rw [hw]
    go_wp2
    go_ret
    exact ⟨by rw [HP.out (by omega)]; rfl, Bl⟩
  by_cases h7 : 4 < (pn : Int)
  case pos =>
    go_wp2_with fail
    refine HV.out.mono ?_
    rintro e w1 ⟨rfl, hw⟩
    rw [hw]
    go_wp2
    go_ret
    exact ⟨by rw [HP.out (by omega)]; rfl, Bl⟩
  by_cases h8 : 8 < (nn : Int)
  case pos =>
    go_wp2_with fail
    refine HV.out.mono ?_
    rintro e w1 ⟨rfl, hw⟩
    rw [hw]
    go_wp2
    go_ret
    exact ⟨by rw [HP.out (by omega)]; rfl, Bl⟩
  have HH : Hid ((0 ≤ d ∧ d ≤ 1000) ∧ (1 ≤ n ∧ n ≤ 1000) ∧ verOk f ∧ (1 ≤ ps.length ∧ ps.length ≤ 4) ∧ ns.length ≤ 8) := by unfold Hid; omega
  go_wp2_with fail
  refine HV.out.mono ?_
  rintro e w1 ⟨rfl, hw⟩
  rw [hw]
  clear hw HV HP h1 h2 h3 h4 h5
  have HPs : Hid (Ps w pa pn pc ps) := hp
  have HNs : Hid (Ns w na nn nc ns) := hn
  have hAl := A.lt
  clear hp hn c0 c1 c2
  go_wp2
  clear c3 c4
  go_loopw [3] (fun i wr => ∃ k : Nat, k ≤ pn ∧ i = .int .i64 k ∧ Hid (∀ j, j < k → pOkAt ps j) ∧ Arr wr w.heap.size 26 [.int .i64 d, .int .i64 n, .int .i64 f, .slice pa pn pc, .slice na nn nc] ∧ Below w.heap.size w wr) (fun i _ => pn - (intOf i).toNat)
  case atStart => exact ⟨0, by omega, rfl, (fun j hj => by omega), A, Bl⟩
  case round =>
    clear A Bl
    obtain ⟨k, hk, rfl, HN, A, Bl⟩ := hrel
    have c3 := A.cell 3
    simp at c3
    by_cases hlt : (k : Int) < (pn : Int)
    · obtain ⟨b, o, rfl, hbs, hcell⟩ : ∃ b o, pa = some ⟨b, o, none⟩ ∧ b < wr.heap.size ∧ ∀ i, i < pn → ∃ ha hc, PartAt wr b (o + i * 4) (ps.getD i pz) ha hc := by
        rcases (HPs.out.below Bl).2.2.2 with hq | hq
        · omega
        · exact hq
      obtain ⟨ha, hc, P⟩ := hcell k (by omega)
      obtain ⟨p, ep⟩ : ∃ p, p = ps.getD k pz := ⟨_, rfl⟩
      rw [← ep] at P
      obtain ⟨pk, pv, psz, ph⟩ := p
      obtain ⟨q1, q2, q3, q4, _⟩ := P
      simp only [] at q1 q2 q3 q4
      have HE : Hid _ := ep
      have hk0 : (0 : Int) ≤ (k : Int) := by omega
      clear ep
      by_cases hpo : partOk pk pv psz ph.length
      · have HC : Hid (∀ Z, Calls Tryd.prog 51 #[.agg #[.int .i64 pk, .int .i64 pv, .int .i64 psz, .slice ha ph.length hc]] Z fun e w' => e = .returned (.bool true) ∧ Below Z.heap.size Z w') := by
          unfold Hid; intro Z; have := spec8part pk pv psz ha ph.length hc Z; rw [decide_eq_true hpo] at this; exact this
        have HPO : Hid _ := hpo
        clear hpo
        by_cases hz : k = 0
        · subst hz
          clear hcell
          simp only [Nat.zero_mul, Nat.add_zero] at q1 q2 q3 q4
          go_upto_region 6 with fail
          try simp only [Act.put]
          refine tameG [kc 54 (.pointer (some ⟨w.heap.size, 3, none⟩)), kc 55 (.slice (some ⟨b, o, none⟩) pn pc), kc 56 (.int .i64 (0 : Int)), kc 57 (.pointer (some ⟨b, o, none⟩)), kc 58 (.agg #[.int .i64 pk, .int .i64 pv, .int .i64 psz, .slice ha ph.length hc]), kc 59 (.bool true), kc 60 (.bool false), kc 61 (.bool false), kc 62 (.int .i64 (0 : Int)), kc 63 (.bool false), kc 64 (.bool false), kc 65 (undef), kc 66 (undef), kc 67 (undef), kc 68 (undef), kc 69 (undef), kc 70 (undef), kc 71 (undef), kc 72 (undef), kc 73 (undef), kc 74 (undef), kc 75 (undef), kc 76 (undef), kc 77 (undef), kc 78 (undef), kc 79 (.bool false), kc 80 (.bool false)] 27 (by kernel_rfl) (by kernel_rfl) (by kernel_rfl) (by repeat' first | exact trivial | apply kc_keeps | constructor) 0 (by kernel_rfl) (fun vv ll hh yW bW => ?_) (fun vv ll hh yW bW F ivh aph => ?_)
          · have x3 := (bW.cell (p := ⟨w.heap.size, 3, none⟩) A.lt).trans c3
            have x4 := (bW.cell (p := ⟨b, _, none⟩) hbs).trans q1
            have x5 := (bW.cell (p := ⟨b, _, none⟩) hbs).trans q2
            have x6 := (bW.cell (p := ⟨b, _, none⟩) hbs).trans q3
            have x7 := (bW.cell (p := ⟨b, _, none⟩) hbs).trans q4
            refine ⟨og (tp (by kernel_rfl)) (by kernel_rfl), og (tp ?_) (by kernel_rfl), og (tp (by kernel_rfl)) (by kernel_rfl), og (tp ?_) (by kernel_rfl), og (tp ?_) (by kernel_rfl), og (tc (HC.out yW) (by kernel_rfl)) (by kernel_rfl), og (tp (by kernel_rfl)) (by kernel_rfl), og (tp (by kernel_rfl)) (by kernel_rfl), og (tp (by kernel_rfl)) (by kernel_rfl), og (tp (by kernel_rfl)) (by kernel_rfl), og (tp (by kernel_rfl)) (by kernel_rfl), ou (by kernel_rfl), ou (by kernel_rfl), ou (by kernel_rfl), ou (by kernel_rfl), ou (by kernel_rfl), ou (by kernel_rfl), ou (by kernel_rfl), ou (by kernel_rfl), ou (by kernel_rfl), ou (by kernel_rfl), ou (by kernel_rfl), ou (by kernel_rfl), ou (by kernel_rfl), ou (by kernel_rfl), og (tp (by kernel_rfl)) (by kernel_rfl), og (tp (by kernel_rfl)) (by kernel_rfl), trivial⟩
            all_goals
              simp only [fillK, putT, List.setIfInBounds_toArray, List.set_cons_zero, List.set_cons_succ]
              unfold execOp
              go_simp
          clear F ivh aph
          obtain ⟨y, hy⟩ : ∃ z, z = yW := ⟨_, rfl⟩
          rw [← hy] at bW ⊢
          clear hy
          refine wpAny_done (by kernel_rfl) ?_ _
          simp only [fillK, putT, List.setIfInBounds_toArray, List.set_cons_zero, List.set_cons_succ]
          replace Bl := Bl.trans (bW.mono Bl.size)
          replace A := A.kept bW
          have HN2 : Hid (∀ j, j < 0 + 1 → pOkAt ps j) := by
            unfold Hid; intro j hj
            by_cases hjk : j = 0
            · subst hjk
              refine ⟨by rw [← HE.out]; exact HPO.out, fun h => ?_⟩
              omega
            · exact HN.out j (by omega)
          go_wp2
          go_roundw
          case rel => exact ⟨0 + 1, by omega, by go_num, HN2, A, Bl⟩
          case measure => simp [intOf]; omega
        · have hkd : (0 : Int) < (k : Int) := by omega
          have hkn : 0 < k := by omega
          clear hz
          have hk1 : (1 : Int) ≤ (k : Int) := by omega
          have hk2 : (k : Int) - 1 < (pn : Int) := by omega
          have hw1 : IntKind.i64.wrap ((k : Int) - 1) = (k : Int) - 1 := by rw [IntKind.wrap_i64]; omega
          have ht1 : ((k : Int) - 1).toNat = k - 1 := by omega
          obtain ⟨ha', hc', P'⟩ := hcell (k - 1) (by omega)
          obtain ⟨z, hzz⟩ : ∃ z, z = (ps.getD (k - 1) pz).k := ⟨_, rfl⟩
          have r1 : wr.cell? ⟨b, o + (k - 1) * 4, none⟩ = some (.int .i64 z) := by rw [hzz]; exact P'.k
          have HZ : Hid _ := hzz
          clear hzz P' hcell
          by_cases hzk : z < pk
          · have hzn : ¬ pk ≤ z := by omega
            have HZK : Hid _ := hzk
            go_upto_region 6 with fail
            try simp only [Act.put]
            refine tameG [kc 54 (.pointer (some ⟨w.heap.size, 3, none⟩)), kc 55 (.slice (some ⟨b, o, none⟩) pn pc), kc 56 (.int .i64 (k : Int)), kc 57 (.pointer (some ⟨b, o + k * 4, none⟩)), kc 58 (.agg #[.int .i64 pk, .int .i64 pv, .int .i64 psz, .slice ha ph.length hc]), kc 59 (.bool true), kc 60 (.bool false), kc 61 (.bool false), kc 62 (.int .i64 (k : Int)), kc 63 (.bool true), kc 64 (.bool true), kc 65 (.pointer (some ⟨w.heap.size, 3, none⟩)), kc 66 (.slice (some ⟨b, o, none⟩) pn pc), kc 67 (.int .i64 (k : Int)), kc 68 (.int .i64 ((k : Int) - 1)), kc 69 (.pointer (some ⟨b, o + (k - 1) * 4, none⟩)), kc 70 (.pointer (some ⟨b, o + (k - 1) * 4, none⟩)), kc 71 (.int .i64 z), kc 72 (.pointer (some ⟨w.heap.size, 3, none⟩)), kc 73 (.slice (some ⟨b, o, none⟩) pn pc), kc 74 (.int .i64 (k : Int)), kc 75 (.pointer (some ⟨b, o + k * 4, none⟩)), kc 76 (.pointer (some ⟨b, o + k * 4, none⟩)), kc 77 (.int .i64 pk), kc 78 (.bool false), kc 79 (.bool false), kc 80 (.bool false)] 27 (by kernel_rfl) (by kernel_rfl) (by kernel_rfl) (by repeat' first | exact trivial | apply kc_keeps | constructor) 0 (by kernel_rfl) (fun vv ll hh yW bW => ?_) (fun vv ll hh yW bW F ivh aph => ?_)
            · have x3 := (bW.cell (p := ⟨w.heap.size, 3, none⟩) A.lt).trans c3
              have x4 := (bW.cell (p := ⟨b, _, none⟩) hbs).trans q1
              have x5 := (bW.cell (p := ⟨b, _, none⟩) hbs).trans q2
              have x6 := (bW.cell (p := ⟨b, _, none⟩) hbs).trans q3
              have x7 := (bW.cell (p := ⟨b, _, none⟩) hbs).trans q4
              have x8 := (bW.cell (p := ⟨b, _, none⟩) hbs).trans r1
              refine ⟨og (tp (by kernel_rfl)) (by kernel_rfl), og (tp ?_) (by kernel_rfl), og (tp (by kernel_rfl)) (by kernel_rfl), og (tp ?_) (by kernel_rfl), og (tp ?_) (by kernel_rfl), og (tc (HC.out yW) (by kernel_rfl)) (by kernel_rfl), og (tp (by kernel_rfl)) (by kernel_rfl), og (tp (by kernel_rfl)) (by kernel_rfl), og (tp (by kernel_rfl)) (by kernel_rfl), og (tp ?_) (by kernel_rfl), og (tp (by kernel_rfl)) (by kernel_rfl), og (tp (by kernel_rfl)) (by kernel_rfl), og (tp ?_) (by kernel_rfl), og (tp (by kernel_rfl)) (by kernel_rfl), og (tp ?_) (by kernel_rfl), og (tp ?_) (by kernel_rfl), og (tp ?_) (by kernel_rfl), og (tp ?_) (by kernel_rfl), og (tp (by kernel_rfl)) (by kernel_rfl), og (tp ?_) (by kernel_rfl), og (tp (by kernel_rfl)) (by kernel_rfl), og (tp ?_) (by kernel_rfl), og (tp ?_) (by kernel_rfl), og (tp ?_) (by kernel_rfl), og (tp ?_) (by kernel_rfl), og (tp (by kernel_rfl)) (by kernel_rfl), og (tp (by kernel_rfl)) (by kernel_rfl), trivial⟩
              all_goals
                simp only [fillK, putT, List.setIfInBounds_toArray, List.set_cons_zero, List.set_cons_succ]
                unfold execOp
                go_simp
            clear F ivh aph
            obtain ⟨y, hy⟩ : ∃ z, z = yW := ⟨_, rfl⟩
            rw [← hy] at bW ⊢
            clear hy
            refine wpAny_done (by kernel_rfl) ?_ _
            simp only [fillK, putT, List.setIfInBounds_toArray, List.set_cons_zero, List.set_cons_succ]
            replace Bl := Bl.trans (bW.mono Bl.size)
            replace A := A.kept bW
            have HN2 : Hid (∀ j, j < k + 1 → pOkAt ps j) := by
              unfold Hid; intro j hj
              by_cases hjk : j = k
              · subst hjk
                refine ⟨by rw [← HE.out]; exact HPO.out, fun _ => by rw [← HE.out, ← HZ.out]; exact HZK.out⟩
              · exact HN.out j (by omega)
            go_wp2
            go_roundw
            case rel => exact ⟨k + 1, by omega, by go_num, HN2, A, Bl⟩
            case measure => simp [intOf]; omega
          · have hzn : pk ≤ z := by omega
            have HNo : Hid (R = false) := HF.out (fun h => by have := (h.2.1 k (by show k < ps.length; omega)).2 (by omega); simp only [] at this; rw [← HE.out, ← HZ.out] at this; exact hzk this)
            go_upto_region 6 with fail
            try simp only [Act.put]
            refine tameG [kc 54 (.pointer (some ⟨w.heap.size, 3, none⟩)), kc 55 (.slice (some ⟨b, o, none⟩) pn pc), kc 56 (.int .i64 (k : Int)), kc 57 (.pointer (some ⟨b, o + k * 4, none⟩)), kc 58 (.agg #[.int .i64 pk, .int .i64 pv, .int .i64 psz, .slice ha ph.length hc]), kc 59 (.bool true), kc 60 (.bool false), kc 61 (.bool false), kc 62 (.int .i64 (k : Int)), kc 63 (.bool true), kc 64 (.bool true), kc 65 (.pointer (some ⟨w.heap.size, 3, none⟩)), kc 66 (.slice (some ⟨b, o, none⟩) pn pc), kc 67 (.int .i64 (k : Int)), kc 68 (.int .i64 ((k : Int) - 1)), kc 69 (.pointer (some ⟨b, o + (k - 1) * 4, none⟩)), kc 70 (.pointer (some ⟨b, o + (k - 1) * 4, none⟩)), kc 71 (.int .i64 z), kc 72 (.pointer (some ⟨w.heap.size, 3, none⟩)), kc 73 (.slice (some ⟨b, o, none⟩) pn pc), kc 74 (.int .i64 (k : Int)), kc 75 (.pointer (some ⟨b, o + k * 4, none⟩)), kc 76 (.pointer (some ⟨b, o + k * 4, none⟩)), kc 77 (.int .i64 pk), kc 78 (.bool true), kc 79 (.bool true), kc 80 (.bool true)] 27 (by kernel_rfl) (by kernel_rfl) (by kernel_rfl) (by repeat' first | exact trivial | apply kc_keeps | constructor) 0 (by kernel_rfl) (fun vv ll hh yW bW => ?_) (fun vv ll hh yW bW F ivh aph => ?_)
            · have x3 := (bW.cell (p := ⟨w.heap.size, 3, none⟩) A.lt).trans c3
              have x4 := (bW.cell (p := ⟨b, _, none⟩) hbs).trans q1
              have x5 := (bW.cell (p := ⟨b, _, none⟩) hbs).trans q2
              have x6 := (bW.cell (p := ⟨b, _, none⟩) hbs).trans q3
              have x7 := (bW.cell (p := ⟨b, _, none⟩) hbs).trans q4
              have x8 := (bW.cell (p := ⟨b, _, none⟩) hbs).trans r1
              refine ⟨og (tp (by kernel_rfl)) (by kernel_rfl), og (tp ?_) (by kernel_rfl), og (tp (by kernel_rfl)) (by kernel_rfl), og (tp ?_) (by kernel_rfl), og (tp ?_) (by kernel_rfl), og (tc (HC.out yW) (by kernel_rfl)) (by kernel_rfl), og (tp (by kernel_rfl)) (by kernel_rfl), og (tp (by kernel_rfl)) (by kernel_rfl), og (tp (by kernel_rfl)) (by kernel_rfl), og (tp ?_) (by kernel_rfl), og (tp (by kernel_rfl)) (by kernel_rfl), og (tp (by kernel_rfl)) (by kernel_rfl), og (tp ?_) (by kernel_rfl), og (tp (by kernel_rfl)) (by kernel_rfl), og (tp ?_) (by kernel_rfl), og (tp ?_) (by kernel_rfl), og (tp ?_) (by kernel_rfl), og (tp ?_) (by kernel_rfl), og (tp (by kernel_rfl)) (by kernel_rfl), og (tp ?_) (by kernel_rfl), og (tp (by kernel_rfl)) (by kernel_rfl), og (tp ?_) (by kernel_rfl), og (tp ?_) (by kernel_rfl), og (tp ?_) (by kernel_rfl), og (tp ?_) (by kernel_rfl), og (tp (by kernel_rfl)) (by kernel_rfl), og (tp (by kernel_rfl)) (by kernel_rfl), trivial⟩
              all_goals
                simp only [fillK, putT, List.setIfInBounds_toArray, List.set_cons_zero, List.set_cons_succ]
                unfold execOp
                go_simp
            clear F ivh aph
            obtain ⟨y, hy⟩ : ∃ z, z = yW := ⟨_, rfl⟩
            rw [← hy] at bW ⊢
            clear hy
            refine wpAny_done (by kernel_rfl) ?_ _
            simp only [fillK, putT, List.setIfInBounds_toArray, List.set_cons_zero, List.set_cons_succ]
            go_wp2
            go_ret
            exact ⟨by rw [HNo.out]; rfl, Bl.trans (bW.mono Bl.size)⟩
      · have HC : Hid (∀ Z, Calls Tryd.prog 51 #[.agg #[.int .i64 pk, .int .i64 pv, .int .i64 psz, .slice ha ph.length hc]] Z fun e w' => e = .returned (.bool false) ∧ Below Z.heap.size Z w') := by
          unfold Hid; intro Z; have := spec8part pk pv psz ha ph.length hc Z; rw [decide_eq_false hpo] at this; exact this
        have HNo : Hid (R = false) := HF.out (fun h => hpo (by have := (h.2.1 k (by show k < ps.length; omega)).1; simp only [] at this; rw [← HE.out] at this; exact this))
        clear hpo hcell
        go_upto_region 6 with fail
        try simp only [Act.put]
        refine tameG [kc 54 (.pointer (some ⟨w.heap.size, 3, none⟩)), kc 55 (.slice (some ⟨b, o, none⟩) pn pc), kc 56 (.int .i64 (k : Int)), kc 57 (.pointer (some ⟨b, o + k * 4, none⟩)), kc 58 (.agg #[.int .i64 pk, .int .i64 pv, .int .i64 psz, .slice ha ph.length hc]), kc 59 (.bool false), kc 60 (.bool true), kc 61 (.bool true), kc 62 (undef), kc 63 (undef), kc 64 (undef), kc 65 (undef), kc 66 (undef), kc 67 (undef), kc 68 (undef), kc 69 (undef), kc 70 (undef), kc 71 (undef), kc 72 (undef), kc 73 (undef), kc 74 (undef), kc 75 (undef), kc 76 (undef), kc 77 (undef), kc 78 (undef), kc 79 (undef), kc 80 (.bool true)] 27 (by kernel_rfl) (by kernel_rfl) (by kernel_rfl) (by repeat' first | exact trivial | apply kc_keeps | constructor) 0 (by kernel_rfl) (fun vv ll hh yW bW => ?_) (fun vv ll hh yW bW F ivh aph => ?_)
        · have x3 := (bW.cell (p := ⟨w.heap.size, 3, none⟩) A.lt).trans c3
          have x4 := (bW.cell (p := ⟨b, _, none⟩) hbs).trans q1
          have x5 := (bW.cell (p := ⟨b, _, none⟩) hbs).trans q2
          have x6 := (bW.cell (p := ⟨b, _, none⟩) hbs).trans q3
          have x7 := (bW.cell (p := ⟨b, _, none⟩) hbs).trans q4
          refine ⟨og (tp (by kernel_rfl)) (by kernel_rfl), og (tp ?_) (by kernel_rfl), og (tp (by kernel_rfl)) (by kernel_rfl), og (tp ?_) (by kernel_rfl), og (tp ?_) (by kernel_rfl), og (tc (HC.out yW) (by kernel_rfl)) (by kernel_rfl), og (tp (by kernel_rfl)) (by kernel_rfl), og (tp (by kernel_rfl)) (by kernel_rfl), ou (by kernel_rfl), ou (by kernel_rfl), ou (by kernel_rfl), ou (by kernel_rfl), ou (by kernel_rfl), ou (by kernel_rfl), ou (by kernel_rfl), ou (by kernel_rfl), ou (by kernel_rfl), ou (by kernel_rfl), ou (by kernel_rfl), ou (by kernel_rfl), ou (by kernel_rfl), ou (by kernel_rfl), ou (by kernel_rfl), ou (by kernel_rfl), ou (by kernel_rfl), ou (by kernel_rfl), og (tp (by kernel_rfl)) (by kernel_rfl), trivial⟩
          all_goals
            simp only [fillK, putT, List.setIfInBounds_toArray, List.set_cons_zero, List.set_cons_succ]
            unfold execOp
            go_simp
        clear F ivh aph
        obtain ⟨y, hy⟩ : ∃ z, z = yW := ⟨_, rfl⟩
        rw [← hy] at bW ⊢
        clear hy
        refine wpAny_done (by kernel_rfl) ?_ _
        simp only [fillK, putT, List.setIfInBounds_toArray, List.set_cons_zero, List.set_cons_succ]
        go_wp2
        go_ret
        exact ⟨by rw [HNo.out]; rfl, Bl.trans (bW.mono Bl.size)⟩
    · have HKp : Hid (k = pn) := by unfold Hid; omega
      have HAP : Hid _ := HN.out
      clear HN hk
      go_wp2
      clear c3 hlt
      go_loopw [4] (fun i wr => ∃ k : Nat, k ≤ nn ∧ i = .int .i64 k ∧ Hid (∀ j, j < k → nOkAt ns j) ∧ Arr wr w.heap.size 26 [.int .i64 d, .int .i64 n, .int .i64 f, .slice pa pn pc, .slice na nn nc] ∧ Below w.heap.size w wr) (fun i _ => nn - (intOf i).toNat)
      case atStart => exact ⟨0, by omega, rfl, (fun j hj => by omega), A, Bl⟩
      case round =>
        clear A Bl
        obtain ⟨k, hk, rfl, HN, A, Bl⟩ := hrel
        have c4 := A.cell 4
        simp at c4
        by_cases hlt : (k : Int) < (nn : Int)
        · obtain ⟨b, o, rfl, hbs, hcell⟩ : ∃ b o, na = some ⟨b, o, none⟩ ∧ b < wr.heap.size ∧ ∀ i, i < nn → NeedAt wr b (o + i * 4) (ns.getD i nz) := by
            rcases (HNs.out.below Bl).2.2.2 with hq | hq
            · omega
            · exact hq
          have P := hcell k (by omega)
          obtain ⟨p, ep⟩ : ∃ p, p = ns.getD k nz := ⟨_, rfl⟩
          rw [← ep] at P
          obtain ⟨no, nf, nt, nk⟩ := p
          obtain ⟨q1, q2, q3, q4⟩ := P
          simp only [] at q1 q2 q3 q4
          have HE : Hid _ := ep
          have hk0 : (0 : Int) ≤ (k : Int) := by omega
          clear ep
          by_cases hpo : needOk no nf nt nk
          · have HC : Hid (∀ Z, Calls Tryd.prog 52 #[.agg #[.int .i64 no, .int .i64 nf, .int .i64 nt, .int .i64 nk]] Z fun e w' => e = .returned (.bool true) ∧ Below Z.heap.size Z w') := by
              unfold Hid; intro Z; have := spec8need no nf nt nk Z; rw [decide_eq_true hpo] at this; exact this
            have HPO : Hid _ := hpo
            clear hpo
            by_cases hz : k = 0
            · subst hz
              clear hcell
              simp only [Nat.zero_mul, Nat.add_zero] at q1 q2 q3 q4
              go_upto_region 11 with fail
              try simp only [Act.put]
              refine tameG [kc 88 (.pointer (some ⟨w.heap.size, 4, none⟩)), kc 89 (.slice (some ⟨b, o, none⟩) nn nc), kc 90 (.int .i64 (0 : Int)), kc 91 (.pointer (some ⟨b, o, none⟩)), kc 92 (.agg #[.int .i64 no, .int .i64 nf, .int .i64 nt, .int .i64 nk]), kc 93 (.bool true), kc 94 (.bool false), kc 95 (.bool false), kc 96 (.int .i64 (0 : Int)), kc 97 (.bool false), kc 98 (.bool false), kc 99 (undef), kc 100 (undef), kc 101 (undef), kc 102 (undef), kc 103 (undef), kc 104 (undef), kc 105 (undef), kc 106 (undef), kc 107 (undef), kc 108 (undef), kc 109 (undef), kc 110 (undef), kc 111 (undef), kc 112 (.bool false), kc 113 (.bool false)] 26 (by kernel_rfl) (by kernel_rfl) (by kernel_rfl) (by repeat' first | exact trivial | apply kc_keeps | constructor) 0 (by kernel_rfl) (fun vv ll hh yW bW => ?_) (fun vv ll hh yW bW F ivh aph => ?_)
              · have x3 := (bW.cell (p := ⟨w.heap.size, 4, none⟩) A.lt).trans c4
                have x4 := (bW.cell (p := ⟨b, _, none⟩) hbs).trans q1
                have x5 := (bW.cell (p := ⟨b, _, none⟩) hbs).trans q2
                have x6 := (bW.cell (p := ⟨b, _, none⟩) hbs).trans q3
                have x7 := (bW.cell (p := ⟨b, _, none⟩) hbs).trans q4
                refine ⟨og (tp (by kernel_rfl)) (by kernel_rfl), og (tp ?_) (by kernel_rfl), og (tp (by kernel_rfl)) (by kernel_rfl), og (tp ?_) (by kernel_rfl), og (tp ?_) (by kernel_rfl), og (tc (HC.out yW) (by kernel_rfl)) (by kernel_rfl), og (tp (by kernel_rfl)) (by kernel_rfl), og (tp (by kernel_rfl)) (by kernel_rfl), og (tp (by kernel_rfl)) (by kernel_rfl), og (tp (by kernel_rfl)) (by kernel_rfl), og (tp (by kernel_rfl)) (by kernel_rfl), ou (by kernel_rfl), ou (by kernel_rfl), ou (by kernel_rfl), ou (by kernel_rfl), ou (by kernel_rfl), ou (by kernel_rfl), ou (by kernel_rfl), ou (by kernel_rfl), ou (by kernel_rfl), ou (by kernel_rfl), ou (by kernel_rfl), ou (by kernel_rfl), ou (by kernel_rfl), og (tp (by kernel_rfl)) (by kernel_rfl), og (tp (by kernel_rfl)) (by kernel_rfl), trivial⟩
                all_goals
                  simp only [fillK, putT, List.setIfInBounds_toArray, List.set_cons_zero, List.set_cons_succ]
                  unfold execOp
                  go_simp
              clear F ivh aph
              obtain ⟨y, hy⟩ : ∃ z, z = yW := ⟨_, rfl⟩
              rw [← hy] at bW ⊢
              clear hy
              refine wpAny_done (by kernel_rfl) ?_ _
              simp only [fillK, putT, List.setIfInBounds_toArray, List.set_cons_zero, List.set_cons_succ]
              replace Bl := Bl.trans (bW.mono Bl.size)
              replace A := A.kept bW
              have HN2 : Hid (∀ j, j < 0 + 1 → nOkAt ns j) := by
                unfold Hid; intro j hj
                by_cases hjk : j = 0
                · subst hjk
                  refine ⟨by rw [← HE.out]; exact HPO.out, fun h => ?_⟩
                  omega
                · exact HN.out j (by omega)
              go_wp2
              go_roundw
              case rel => exact ⟨0 + 1, by omega, by go_num, HN2, A, Bl⟩
              case measure => simp [intOf]; omega
            · have hkd : (0 : Int) < (k : Int) := by omega
              have hkn : 0 < k := by omega
              clear hz
              have hk1 : (1 : Int) ≤ (k : Int) := by omega
              have hk2 : (k : Int) - 1 < (nn : Int) := by omega
              have hw1 : IntKind.i64.wrap ((k : Int) - 1) = (k : Int) - 1 := by rw [IntKind.wrap_i64]; omega
              have ht1 : ((k : Int) - 1).toNat = k - 1 := by omega
              have P' := hcell (k - 1) (by omega)
              obtain ⟨p', ep'⟩ : ∃ p, p = ns.getD (k - 1) nz := ⟨_, rfl⟩
              rw [← ep'] at P'
              obtain ⟨mo, mf, mt, mk⟩ := p'
              obtain ⟨r1, r2, r3, r4⟩ := P'
              simp only [] at r1 r2 r3 r4
              have HZ : Hid _ := ep'
              clear ep' hcell
              by_cases hzk : needLt mo mf mt mk no nf nt nk
              · have HD : Hid (∀ Z, Calls Tryd.prog 53 #[.agg #[.int .i64 mo, .int .i64 mf, .int .i64 mt, .int .i64 mk], .agg #[.int .i64 no, .int .i64 nf, .int .i64 nt, .int .i64 nk]] Z fun e w' => e = .returned (.bool true) ∧ Below Z.heap.size Z w') := by
                  unfold Hid; intro Z; have := spec8ahead mo mf mt mk no nf nt nk Z; rw [decide_eq_true hzk] at this; exact this
                have HZK : Hid _ := hzk
                clear hzk
                go_upto_region 11 with fail
                try simp only [Act.put]
                refine tameG [kc 88 (.pointer (some ⟨w.heap.size, 4, none⟩)), kc 89 (.slice (some ⟨b, o, none⟩) nn nc), kc 90 (.int .i64 (k : Int)), kc 91 (.pointer (some ⟨b, o + k * 4, none⟩)), kc 92 (.agg #[.int .i64 no, .int .i64 nf, .int .i64 nt, .int .i64 nk]), kc 93 (.bool true), kc 94 (.bool false), kc 95 (.bool false), kc 96 (.int .i64 (k : Int)), kc 97 (.bool true), kc 98 (.bool true), kc 99 (.pointer (some ⟨w.heap.size, 4, none⟩)), kc 100 (.slice (some ⟨b, o, none⟩) nn nc), kc 101 (.int .i64 (k : Int)), kc 102 (.int .i64 ((k : Int) - 1)), kc 103 (.pointer (some ⟨b, o + (k - 1) * 4, none⟩)), kc 104 (.agg #[.int .i64 mo, .int .i64 mf, .int .i64 mt, .int .i64 mk]), kc 105 (.pointer (some ⟨w.heap.size, 4, none⟩)), kc 106 (.slice (some ⟨b, o, none⟩) nn nc), kc 107 (.int .i64 (k : Int)), kc 108 (.pointer (some ⟨b, o + k * 4, none⟩)), kc 109 (.agg #[.int .i64 no, .int .i64 nf, .int .i64 nt, .int .i64 nk]), kc 110 (.bool true), kc 111 (.bool false), kc 112 (.bool false), kc 113 (.bool false)] 26 (by kernel_rfl) (by kernel_rfl) (by kernel_rfl) (by repeat' first | exact trivial | apply kc_keeps | constructor) 0 (by kernel_rfl) (fun vv ll hh yW bW => ?_) (fun vv ll hh yW bW F ivh aph => ?_)
                · have x3 := (bW.cell (p := ⟨w.heap.size, 4, none⟩) A.lt).trans c4
                  have x4 := (bW.cell (p := ⟨b, _, none⟩) hbs).trans q1
                  have x5 := (bW.cell (p := ⟨b, _, none⟩) hbs).trans q2
                  have x6 := (bW.cell (p := ⟨b, _, none⟩) hbs).trans q3
                  have x7 := (bW.cell (p := ⟨b, _, none⟩) hbs).trans q4
                  have x8 := (bW.cell (p := ⟨b, _, none⟩) hbs).trans r1
                  have x9 := (bW.cell (p := ⟨b, _, none⟩) hbs).trans r2
                  have x10 := (bW.cell (p := ⟨b, _, none⟩) hbs).trans r3
                  have x11 := (bW.cell (p := ⟨b, _, none⟩) hbs).trans r4
                  refine ⟨og (tp (by kernel_rfl)) (by kernel_rfl), og (tp ?_) (by kernel_rfl), og (tp (by kernel_rfl)) (by kernel_rfl), og (tp ?_) (by kernel_rfl), og (tp ?_) (by kernel_rfl), og (tc (HC.out yW) (by kernel_rfl)) (by kernel_rfl), og (tp (by kernel_rfl)) (by kernel_rfl), og (tp (by kernel_rfl)) (by kernel_rfl), og (tp (by kernel_rfl)) (by kernel_rfl), og (tp ?_) (by kernel_rfl), og (tp (by kernel_rfl)) (by kernel_rfl), og (tp (by kernel_rfl)) (by kernel_rfl), og (tp ?_) (by kernel_rfl), og (tp (by kernel_rfl)) (by kernel_rfl), og (tp ?_) (by kernel_rfl), og (tp ?_) (by kernel_rfl), og (tp ?_) (by kernel_rfl), og (tp (by kernel_rfl)) (by kernel_rfl), og (tp ?_) (by kernel_rfl), og (tp (by kernel_rfl)) (by kernel_rfl), og (tp ?_) (by kernel_rfl), og (tp ?_) (by kernel_rfl), og (tc (HD.out yW) (by kernel_rfl)) (by kernel_rfl), og (tp (by kernel_rfl)) (by kernel_rfl), og (tp (by kernel_rfl)) (by kernel_rfl), og (tp (by kernel_rfl)) (by kernel_rfl), trivial⟩
                  all_goals
                    simp only [fillK, putT, List.setIfInBounds_toArray, List.set_cons_zero, List.set_cons_succ]
                    unfold execOp
                    go_simp
                clear F ivh aph
                obtain ⟨y, hy⟩ : ∃ z, z = yW := ⟨_, rfl⟩
                rw [← hy] at bW ⊢
                clear hy
                refine wpAny_done (by kernel_rfl) ?_ _
                simp only [fillK, putT, List.setIfInBounds_toArray, List.set_cons_zero, List.set_cons_succ]
                replace Bl := Bl.trans (bW.mono Bl.size)
                replace A := A.kept bW
                have HN2 : Hid (∀ j, j < k + 1 → nOkAt ns j) := by
                  unfold Hid; intro j hj
                  by_cases hjk : j = k
                  · subst hjk
                    refine ⟨by rw [← HE.out]; exact HPO.out, fun _ => by rw [← HE.out, ← HZ.out]; exact HZK.out⟩
                  · exact HN.out j (by omega)
                go_wp2
                go_roundw
                case rel => exact ⟨k + 1, by omega, by go_num, HN2, A, Bl⟩
                case measure => simp [intOf]; omega
              · have HD : Hid (∀ Z, Calls Tryd.prog 53 #[.agg #[.int .i64 mo, .int .i64 mf, .int .i64 mt, .int .i64 mk], .agg #[.int .i64 no, .int .i64 nf, .int .i64 nt, .int .i64 nk]] Z fun e w' => e = .returned (.bool false) ∧ Below Z.heap.size Z w') := by
                  unfold Hid; intro Z; have := spec8ahead mo mf mt mk no nf nt nk Z; rw [decide_eq_false hzk] at this; exact this
                have HNo : Hid (R = false) := HF.out (fun h => by have := (h.2.2 k (by show k < ns.length; omega)).2 (by omega); simp only [] at this; rw [← HE.out, ← HZ.out] at this; exact hzk this)
                clear hzk
                go_upto_region 11 with fail
                try simp only [Act.put]
                refine tameG [kc 88 (.pointer (some ⟨w.heap.size, 4, none⟩)), kc 89 (.slice (some ⟨b, o, none⟩) nn nc), kc 90 (.int .i64 (k : Int)), kc 91 (.pointer (some ⟨b, o + k * 4, none⟩)), kc 92 (.agg #[.int .i64 no, .int .i64 nf, .int .i64 nt, .int .i64 nk]), kc 93 (.bool true), kc 94 (.bool false), kc 95 (.bool false), kc 96 (.int .i64 (k : Int)), kc 97 (.bool true), kc 98 (.bool true), kc 99 (.pointer (some ⟨w.heap.size, 4, none⟩)), kc 100 (.slice (some ⟨b, o, none⟩) nn nc), kc 101 (.int .i64 (k : Int)), kc 102 (.int .i64 ((k : Int) - 1)), kc 103 (.pointer (some ⟨b, o + (k - 1) * 4, none⟩)), kc 104 (.agg #[.int .i64 mo, .int .i64 mf, .int .i64 mt, .int .i64 mk]), kc 105 (.pointer (some ⟨w.heap.size, 4, none⟩)), kc 106 (.slice (some ⟨b, o, none⟩) nn nc), kc 107 (.int .i64 (k : Int)), kc 108 (.pointer (some ⟨b, o + k * 4, none⟩)), kc 109 (.agg #[.int .i64 no, .int .i64 nf, .int .i64 nt, .int .i64 nk]), kc 110 (.bool false), kc 111 (.bool true), kc 112 (.bool true), kc 113 (.bool true)] 26 (by kernel_rfl) (by kernel_rfl) (by kernel_rfl) (by repeat' first | exact trivial | apply kc_keeps | constructor) 0 (by kernel_rfl) (fun vv ll hh yW bW => ?_) (fun vv ll hh yW bW F ivh aph => ?_)
                · have x3 := (bW.cell (p := ⟨w.heap.size, 4, none⟩) A.lt).trans c4
                  have x4 := (bW.cell (p := ⟨b, _, none⟩) hbs).trans q1
                  have x5 := (bW.cell (p := ⟨b, _, none⟩) hbs).trans q2
                  have x6 := (bW.cell (p := ⟨b, _, none⟩) hbs).trans q3
                  have x7 := (bW.cell (p := ⟨b, _, none⟩) hbs).trans q4
                  have x8 := (bW.cell (p := ⟨b, _, none⟩) hbs).trans r1
                  have x9 := (bW.cell (p := ⟨b, _, none⟩) hbs).trans r2
                  have x10 := (bW.cell (p := ⟨b, _, none⟩) hbs).trans r3
                  have x11 := (bW.cell (p := ⟨b, _, none⟩) hbs).trans r4
                  refine ⟨og (tp (by kernel_rfl)) (by kernel_rfl), og (tp ?_) (by kernel_rfl), og (tp (by kernel_rfl)) (by kernel_rfl), og (tp ?_) (by kernel_rfl), og (tp ?_) (by kernel_rfl), og (tc (HC.out yW) (by kernel_rfl)) (by kernel_rfl), og (tp (by kernel_rfl)) (by kernel_rfl), og (tp (by kernel_rfl)) (by kernel_rfl), og (tp (by kernel_rfl)) (by kernel_rfl), og (tp ?_) (by kernel_rfl), og (tp (by kernel_rfl)) (by kernel_rfl), og (tp (by kernel_rfl)) (by kernel_rfl), og (tp ?_) (by kernel_rfl), og (tp (by kernel_rfl)) (by kernel_rfl), og (tp ?_) (by kernel_rfl), og (tp ?_) (by kernel_rfl), og (tp ?_) (by kernel_rfl), og (tp (by kernel_rfl)) (by kernel_rfl), og (tp ?_) (by kernel_rfl), og (tp (by kernel_rfl)) (by kernel_rfl), og (tp ?_) (by kernel_rfl), og (tp ?_) (by kernel_rfl), og (tc (HD.out yW) (by kernel_rfl)) (by kernel_rfl), og (tp (by kernel_rfl)) (by kernel_rfl), og (tp (by kernel_rfl)) (by kernel_rfl), og (tp (by kernel_rfl)) (by kernel_rfl), trivial⟩
                  all_goals
                    simp only [fillK, putT, List.setIfInBounds_toArray, List.set_cons_zero, List.set_cons_succ]
                    unfold execOp
                    go_simp
                clear F ivh aph
                obtain ⟨y, hy⟩ : ∃ z, z = yW := ⟨_, rfl⟩
                rw [← hy] at bW ⊢
                clear hy
                refine wpAny_done (by kernel_rfl) ?_ _
                simp only [fillK, putT, List.setIfInBounds_toArray, List.set_cons_zero, List.set_cons_succ]
                go_wp2
                go_ret
                exact ⟨by rw [HNo.out]; rfl, Bl.trans (bW.mono Bl.size)⟩
          · have HC : Hid (∀ Z, Calls Tryd.prog 52 #[.agg #[.int .i64 no, .int .i64 nf, .int .i64 nt, .int .i64 nk]] Z fun e w' => e = .returned (.bool false) ∧ Below Z.heap.size Z w') := by
              unfold Hid; intro Z; have := spec8need no nf nt nk Z; rw [decide_eq_false hpo] at this; exact this
            have HNo : Hid (R = false) := HF.out (fun h => hpo (by have := (h.2.2 k (by show k < ns.length; omega)).1; simp only [] at this; rw [← HE.out] at this; exact this))
            clear hpo hcell
            go_upto_region 11 with fail
            try simp only [Act.put]
            refine tameG [kc 88 (.pointer (some ⟨w.heap.size, 4, none⟩)), kc 89 (.slice (some ⟨b, o, none⟩) nn nc), kc 90 (.int .i64 (k : Int)), kc 91 (.pointer (some ⟨b, o + k * 4, none⟩)), kc 92 (.agg #[.int .i64 no, .int .i64 nf, .int .i64 nt, .int .i64 nk]), kc 93 (.bool false), kc 94 (.bool true), kc 95 (.bool true), kc 96 (undef), kc 97 (undef), kc 98 (undef), kc 99 (undef), kc 100 (undef), kc 101 (undef), kc 102 (undef), kc 103 (undef), kc 104 (undef), kc 105 (undef), kc 106 (undef), kc 107 (undef), kc 108 (undef), kc 109 (undef), kc 110 (undef), kc 111 (undef), kc 112 (undef), kc 113 (.bool true)] 26 (by kernel_rfl) (by kernel_rfl) (by kernel_rfl) (by repeat' first | exact trivial | apply kc_keeps | constructor) 0 (by kernel_rfl) (fun vv ll hh yW bW => ?_) (fun vv ll hh yW bW F ivh aph => ?_)
            · have x3 := (bW.cell (p := ⟨w.heap.size, 4, none⟩) A.lt).trans c4
              have x4 := (bW.cell (p := ⟨b, _, none⟩) hbs).trans q1
              have x5 := (bW.cell (p := ⟨b, _, none⟩) hbs).trans q2
              have x6 := (bW.cell (p := ⟨b, _, none⟩) hbs).trans q3
              have x7 := (bW.cell (p := ⟨b, _, none⟩) hbs).trans q4
              refine ⟨og (tp (by kernel_rfl)) (by kernel_rfl), og (tp ?_) (by kernel_rfl), og (tp (by kernel_rfl)) (by kernel_rfl), og (tp ?_) (by kernel_rfl), og (tp ?_) (by kernel_rfl), og (tc (HC.out yW) (by kernel_rfl)) (by kernel_rfl), og (tp (by kernel_rfl)) (by kernel_rfl), og (tp (by kernel_rfl)) (by kernel_rfl), ou (by kernel_rfl), ou (by kernel_rfl), ou (by kernel_rfl), ou (by kernel_rfl), ou (by kernel_rfl), ou (by kernel_rfl), ou (by kernel_rfl), ou (by kernel_rfl), ou (by kernel_rfl), ou (by kernel_rfl), ou (by kernel_rfl), ou (by kernel_rfl), ou (by kernel_rfl), ou (by kernel_rfl), ou (by kernel_rfl), ou (by kernel_rfl), ou (by kernel_rfl), og (tp (by kernel_rfl)) (by kernel_rfl), trivial⟩
              all_goals
                simp only [fillK, putT, List.setIfInBounds_toArray, List.set_cons_zero, List.set_cons_succ]
                unfold execOp
                go_simp
            clear F ivh aph
            obtain ⟨y, hy⟩ : ∃ z, z = yW := ⟨_, rfl⟩
            rw [← hy] at bW ⊢
            clear hy
            refine wpAny_done (by kernel_rfl) ?_ _
            simp only [fillK, putT, List.setIfInBounds_toArray, List.set_cons_zero, List.set_cons_succ]
            go_wp2
            go_ret
            exact ⟨by rw [HNo.out]; rfl, Bl.trans (bW.mono Bl.size)⟩
        · have HKn : Hid (k = nn) := by unfold Hid; omega
          have HRT : Hid (R = true) := HT.out ⟨HH.out, (fun i hi => HAP.out i (by have : i < ps.length := hi; have := HKp.out; omega)), (fun i hi => HN.out i (by have : i < ns.length := hi; have := HKn.out; omega))⟩
          go_wp2
          go_ret
          exact ⟨by rw [HRT.out]; rfl, Bl⟩
end Go.Proofs.YtofflhhlacdgfaaDoor
namespace Go.Proofs.YtofflhhlacdgfaaDoor
open Go.RowKit
set_option maxRecDepth 100000
set_option maxHeartbeats 8000000

theorem fnd_ge (ps : List PartM) (kind : Int) : -1 ≤ fnd ps kind := by unfold fnd; split <;> omega
theorem fnd_lt {ps : List PartM} {kind : Int} {K : Nat} (h : fnd ps kind = (K : Int)) : K < ps.length := by
  unfold fnd at h
  split at h
  · rename_i i hi
    obtain rfl : i = K := by omega
    exact (List.findIdx?_eq_some_iff_getElem.1 hi).1
  · omega
/-- A need is met: no part needs it, or there is a part of its kind in a version of the range. -/
abbrev metN (ps : List PartM) (q : NeedM) : Prop := fnd ps q.o < 0 ∨ ¬ fnd ps q.k < 0 ∧ q.f ≤ (ps.getD (fnd ps q.k).toNat pz).v ∧ (ps.getD (fnd ps q.k).toNat pz).v ≤ q.t
abbrev mtsP (ps : List PartM) (ns : List NeedM) : Prop := ∀ i, i < ns.length → metN ps (ns.getD i nz)
def mts (ps : List PartM) (ns : List NeedM) : Bool := decide (mtsP ps ns)
end Go.Proofs.YtofflhhlacdgfaaDoor
namespace Go.Proofs.YtofflhhlacdgfaaDoor
open Go.RowKit
set_option maxRecDepth 100000
set_option maxHeartbeats 2000000

/-- It is a bundle, and meets its needs. -/
def mtB (B : BunM) : Bool := bOk B && mts B.ps B.ns
end Go.Proofs.YtofflhhlacdgfaaDoor

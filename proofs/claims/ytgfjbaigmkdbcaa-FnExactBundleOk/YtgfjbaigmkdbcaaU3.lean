/-
  What is proved here: what the program's BundleOk answers.
-/
import Derived.Test.YtgfjbaigmkdbcaaU2
import Derived.Test.YtgfjbaigmkdbcaaClP
import Derived.Test.YtgfjbaigmkdbcaaClN
import Derived.Test.YtgfjbaigmkdbcaaP0s
import Derived.Test.YtgfjbaigmkdbcaaC0a
import Derived.Deep.Slices
namespace Go.Proofs.Ytgfjbaigmkdbcaa
open Go.RowKit
set_option maxRecDepth 100000
set_option maxHeartbeats 4000000

theorem Ps.row {w : World} {a : Option Addr} {n c : Nat} {ps : List PartM} (h : Ps w a n c ps) : ∃ f : Nat → Option Addr × Nat, Rw4 w a n (fun i => part4 (ps.getD i pz) (f i).1 (f i).2) := by
  obtain ⟨h0, h1, h2, h3⟩ := h
  rcases h3 with h3 | ⟨b, o, rfl, hb, hc⟩
  · exact ⟨fun _ => (none, 0), .inl h3⟩
  · have hE : ∀ i, i < n → ∃ q : Option Addr × Nat, PartAt w b (o + i * 4) (ps.getD i pz) q.1 q.2 := fun i hi => by
      obtain ⟨ha, hc, h⟩ := hc i hi
      exact ⟨(ha, hc), h⟩
    haveI : Inhabited (Option Addr × Nat) := ⟨(none, 0)⟩
    obtain ⟨f, hF⟩ := Go.Deep.choose_lt (α := Option Addr × Nat) hE
    exact ⟨f, .inr ⟨b, o, rfl, hb, fun i hi => ⟨(hF i hi).k, (hF i hi).v, (hF i hi).s, (hF i hi).h⟩⟩⟩
abbrev need4 (x : NeedM) : L4 := ⟨.int .i64 x.o, .int .i64 x.f, .int .i64 x.t, .int .i64 x.k⟩
theorem Ns.row {w : World} {a : Option Addr} {n c : Nat} {ns : List NeedM} (h : Ns w a n c ns) : Rw4 w a n (fun i => need4 (ns.getD i nz)) := by
  obtain ⟨h0, h1, h2, h3⟩ := h
  rcases h3 with h3 | ⟨b, o, rfl, hb, hc⟩
  · exact .inl h3
  · exact .inr ⟨b, o, rfl, hb, fun i hi => ⟨(hc i hi).o, (hc i hi).f, (hc i hi).t, (hc i hi).k⟩⟩
abbrev pP (ps : List PartM) (i : Nat) : Bool := decide (partOk (ps.getD i pz).k (ps.getD i pz).v (ps.getD i pz).s (ps.getD i pz).h.length)
abbrev pC (ps : List PartM) (i : Nat) : Int := cmpI (ps.getD i pz).k (ps.getD (i + 1) pz).k
abbrev nP (ns : List NeedM) (i : Nat) : Bool := decide (needOk (ns.getD i nz).o (ns.getD i nz).f (ns.getD i nz).t (ns.getD i nz).k)
abbrev nC (ns : List NeedM) (i : Nat) : Int := ndC (ns.getD i nz).o (ns.getD i nz).f (ns.getD i nz).t (ns.getD i nz).k (ns.getD (i + 1) nz).o (ns.getD (i + 1) nz).f (ns.getD (i + 1) nz).t (ns.getD (i + 1) nz).k
theorem pLst {n : Nat} {ps : List PartM} (h : ps.length = n) : lstOk n 4 (pP ps) (pC ps) = true ↔ ps.length ≤ 4 ∧ ∀ i, i < ps.length → pOkAt ps i := by
  subst h
  unfold lstOk
  rw [decide_eq_true_iff]
  constructor
  · rintro ⟨h1, h2⟩
    refine ⟨by omega, fun j hj => ?_⟩
    obtain ⟨a, b⟩ := h2 j hj
    refine ⟨of_decide_eq_true a, fun hp => ?_⟩
    have := b hp
    rw [cmpI_neg, show j - 1 + 1 = j by omega] at this
    exact this
  · rintro ⟨h1, h2⟩
    refine ⟨by omega, fun j hj => ?_⟩
    obtain ⟨a, b⟩ := h2 j hj
    refine ⟨decide_eq_true a, fun hp => ?_⟩
    rw [cmpI_neg, show j - 1 + 1 = j by omega]
    exact b hp
theorem nLst {n : Nat} {ns : List NeedM} (h : ns.length = n) : lstOk n 8 (nP ns) (nC ns) = true ↔ ns.length ≤ 8 ∧ ∀ i, i < ns.length → nOkAt ns i := by
  subst h
  unfold lstOk
  rw [decide_eq_true_iff]
  constructor
  · rintro ⟨h1, h2⟩
    refine ⟨by omega, fun j hj => ?_⟩
    obtain ⟨a, b⟩ := h2 j hj
    refine ⟨of_decide_eq_true a, fun hp => ?_⟩
    have := b hp
    rw [ndC_neg, show j - 1 + 1 = j by omega] at this
    exact this
  · rintro ⟨h1, h2⟩
    refine ⟨by omega, fun j hj => ?_⟩
    obtain ⟨a, b⟩ := h2 j hj
    refine ⟨decide_eq_true a, fun hp => ?_⟩
    rw [ndC_neg, show j - 1 + 1 = j by omega]
    exact b hp
theorem implBundleOk (pa : Option Addr) (pn pc : Nat) (na : Option Addr) (nn nc : Nat) (B : BunM) (w : World) (hp : Ps w pa pn pc B.ps) (hn : Ns w na nn nc B.ns) :
    Calls Try.prog 18 #[.agg #[.int .i64 B.d, .int .i64 B.n, .int .i64 B.f, .slice pa pn pc, .slice na nn nc]] w fun e w' => e = .returned (.bool (bOk B)) ∧ Below w.heap.size w w' := by
  obtain ⟨W, hW⟩ : ∃ W, W = w.alloc (.cells #[.int .i64 B.d, .int .i64 B.n, .int .i64 B.f, .slice pa pn pc, .slice na nn nc] 31) := ⟨_, rfl⟩
  have A : Arr W w.heap.size 31 [.int .i64 B.d, .int .i64 B.n, .int .i64 B.f, .slice pa pn pc, .slice na nn nc] := by rw [hW]; exact Arr.new _ _ _
  have Bl : Below w.heap.size w W := by rw [hW]; exact (Below.refl _ _).alloc (Nat.le_refl _) _
  have lp := hp.2.1
  have ln := hn.2.1
  obtain ⟨R, hR, HT, HF⟩ := bOk_dec B
  rw [hR]
  clear hR
  have CP : Hid (∀ Z, Below w.heap.size w Z → Calls Try.prog 84 #[.slice pa pn pc, .int .i64 4, .func (.func 85) #[] #[], .func (.func 86) #[] #[]] Z fun e w' => e = .returned (.bool (lstOk pn 4 (pP B.ps) (pC B.ps))) ∧ Below Z.heap.size Z w') := fun Z hZ => by
    obtain ⟨f, hr⟩ := (hp.below hZ).row
    exact implListOkPart pa pn pc 4 (by omega) _ _ _ Z hr (fun i hi => ⟨_, _, _, _, _, _, rfl⟩) (fun i hi W hW => implPartOk _ _ _ _ _ _ W) (fun i hi W hW => implComparePart _ _ _ _ _ _ _ _ _ _ _ _ W)
  have CN : Hid (∀ Z, Below w.heap.size w Z → Calls Try.prog 87 #[.slice na nn nc, .int .i64 8, .func (.func 88) #[] #[], .func (.func 89) #[] #[]] Z fun e w' => e = .returned (.bool (lstOk nn 8 (nP B.ns) (nC B.ns))) ∧ Below Z.heap.size Z w') := fun Z hZ =>
    implListOkNeed na nn nc 8 (by omega) _ _ _ Z (hn.below hZ).row (fun i hi => ⟨_, _, _, _, rfl⟩) (fun i hi W hW => implNeedOk _ _ _ _ W) (fun i hi W hW => implCompareNeed _ _ _ _ _ _ _ _ W)
  have LP := pLst lp
  have LN := nLst ln
  obtain ⟨qp, hqp⟩ : ∃ q, q = lstOk pn 4 (pP B.ps) (pC B.ps) := ⟨_, rfl⟩
  obtain ⟨qn, hqn⟩ : ∃ q, q = lstOk nn 8 (nP B.ns) (nC B.ns) := ⟨_, rfl⟩
  rw [← hqp] at CP LP
  rw [← hqn] at CN LN
  clear hqp hqn hp hn
  have HT2 : Hid ((0 ≤ B.d ∧ B.d ≤ 1000) → (1 ≤ B.n ∧ B.n ≤ 1000) → (0 ≤ B.f ∧ B.f ≤ 1000) → 0 < pn → qp = true → qn = true → R = true) := fun h1 h2 h3 h4 h5 h6 => HT.out ⟨⟨h1, h2, h3, ⟨by omega, (LP.1 h5).1⟩, (LN.1 h6).1⟩, (LP.1 h5).2, (LN.1 h6).2⟩
  have HF1 : Hid (¬ (0 ≤ B.d ∧ B.d ≤ 1000) → R = false) := fun h => HF.out fun g => h g.1.1
  have HF2 : Hid (¬ (1 ≤ B.n ∧ B.n ≤ 1000) → R = false) := fun h => HF.out fun g => h g.1.2.1
  have HF3 : Hid (¬ (0 ≤ B.f ∧ B.f ≤ 1000) → R = false) := fun h => HF.out fun g => h g.1.2.2.1
  have HF4 : Hid (¬ 0 < pn → R = false) := fun h => HF.out fun g => by have := g.1.2.2.2.1; omega
  have HF5 : Hid (qp = false → R = false) := fun h => HF.out fun g => by rw [LP.2 ⟨g.1.2.2.2.1.2, g.2.1⟩] at h; cases h
  have HF6 : Hid (qn = false → R = false) := fun h => HF.out fun g => by rw [LN.2 ⟨g.1.2.2.2.2, g.2.2⟩] at h; cases h
  obtain ⟨d, n, f, ps, ns⟩ := B
  simp only [] at *
  clear HT HF LP LN lp ln
  have c0 := A.cell 0
  have c1 := A.cell 1
  have c2 := A.cell 2
  have c3 := A.cell 3
  have c4 := A.cell 4
  simp at c0 c1 c2 c3 c4
  go_enter Try.func18, Try.ntmps18
  go_upto_region 1 with fail
  rw [← hW]
  clear hW
  go_wp2_with fail
  refine (implIsVersion d _).mono ?_
  rintro e w1 ⟨rfl, hw⟩
  rw [hw]
  clear hw
  by_cases h1 : 0 ≤ d ∧ d ≤ 1000
  case neg =>
    rw [decide_eq_false h1]
    have HN := HF1.out h1
    clear HF1 HF2 HF3 HF4 HF5 HF6 HT2
    go_wp2
    go_ret
    exact ⟨by rw [HN]; rfl, Bl⟩
  rw [decide_eq_true h1]
  go_wp2_with fail
  refine (implIsNum n _).mono ?_
  rintro e w1 ⟨rfl, hw⟩
  rw [hw]
  clear hw
  by_cases h2 : 1 ≤ n ∧ n ≤ 1000
  case neg =>
    rw [decide_eq_false h2]
    have HN := HF2.out h2
    go_wp2
    go_ret
    exact ⟨by rw [HN]; rfl, Bl⟩
  rw [decide_eq_true h2]
  go_wp2_with fail
  refine (implIsVersion f _).mono ?_
  rintro e w1 ⟨rfl, hw⟩
  rw [hw]
  clear hw
  by_cases h3 : 0 ≤ f ∧ f ≤ 1000
  case neg =>
    rw [decide_eq_false h3]
    have HN := HF3.out h3
    go_wp2
    go_ret
    exact ⟨by rw [HN]; rfl, Bl⟩
  rw [decide_eq_true h3]
  by_cases h4 : 0 < (pn : Int)
  case neg =>
    have HN := HF4.out (by omega)
    have g4 : decide (0 < (pn : Int)) = false := decide_eq_false h4
    go_wp2
    go_ret
    exact ⟨by rw [HN]; rfl, Bl⟩
  have HT3 : Hid (qp = true → qn = true → R = true) := HT2.out h1 h2 h3 (by omega)
  clear HT2 HF1 HF2 HF3 HF4 h1 h2 h3
  go_wp2_with fail
  refine Calls.mono (CP.out _ Bl) ?_
  rintro e w1 ⟨rfl, hb⟩
  replace A := A.kept hb
  replace Bl := Bl.trans (hb.mono Bl.size)
  clear hb c0 c1 c2 c3 c4
  have c4 := A.cell 4
  simp at c4
  cases qp with
  | false =>
    have HN := HF5.out (by simp)
    go_wp2
    go_ret
    exact ⟨by rw [HN]; rfl, Bl⟩
  | true =>
    go_wp2_with fail
    refine Calls.mono (CN.out _ Bl) ?_
    rintro e w2 ⟨rfl, hb⟩
    replace Bl := Bl.trans (hb.mono Bl.size)
    clear hb c4
    have HQ : Hid (R = qn) := by
      cases qn with
      | false => exact HF6.out (by simp)
      | true => exact HT3.out (by simp) (by simp)
    clear HF6 HT3 HF5 CP CN
    go_wp2
    go_ret
    exact ⟨by rw [HQ.out]; rfl, Bl⟩
end Go.Proofs.Ytgfjbaigmkdbcaa

/-
  What is proved here: what the program's BundleOk answers; what a record does to a state, as plain data; no program is spoken of; rows of records in memory, four cells each; no program is spoken of; what the laws' toNeed and eqNeed answer; rows of records of four ints: stores of four cells, marks; no program is spoken of.
-/
import Derived.Test.YtgfjbaigmkdbcaaDoorJB13
import Derived.Test.YtgfjbaigmkdbcaaDoorJB14
import Derived.Test.YtgfjbaigmkdbcaaDoorJB15
import Derived.Test.YtgfjbaigmkdbcaaDoorJB16
import Derived.Test.YtgfjbaigmkdbcaaDoorJB6
import Derived.Deep.Slices
import Derived.Test.YtgfjbaigmkdbcaaDoorJB1
namespace Go.Proofs.YtgfjbaigmkdbcaaDoor
open Go.RowKit
set_option maxRecDepth 100000
set_option maxHeartbeats 4000000

theorem Ps.row {w : World} {a : Option Addr} {n c : Nat} {ps : List PartM} (h : Ps w a n c ps) : ∃ f : Nat → Option Addr × Nat, Rw4 w a n (fun i => part4 (ps.getD i pz) (f i).1 (f i).2) := by
  obtain ⟨h0, h1, h2, h3⟩ := h
  rcases h3 with h3 | ⟨b, o, rfl, hb, hc⟩
  · exact ⟨fun _ => (none, 0), .inl h3⟩
  · have hE : ∀ i, i < n → ∃ q : Option Addr × Nat, PartAt w b (o + i * 4) (ps.getD i pz) q.1 q.2 := fun i hi => by
      obtain ⟨ha, hc, h⟩ := hc i hi
      exact ⟨(ha, hc), h⟩
    haveI : Inhabited (Option Addr × Nat) := ⟨(none, 0)⟩
    obtain ⟨f, hF⟩ := Go.Deep.choose_lt (α := Option Addr × Nat) hE
    exact ⟨f, .inr ⟨b, o, rfl, hb, fun i hi => ⟨(hF i hi).k, (hF i hi).v, (hF i hi).s, (hF i hi).h⟩⟩⟩
abbrev need4 (x : NeedM) : L4 := ⟨.int .i64 x.o, .int .i64 x.f, .int .i64 x.t, .int .i64 x.k⟩
theorem Ns.row {w : World} {a : Option Addr} {n c : Nat} {ns : List NeedM} (h : Ns w a n c ns) : Rw4 w a n (fun i => need4 (ns.getD i nz)) := by
  obtain ⟨h0, h1, h2, h3⟩ := h
  rcases h3 with h3 | ⟨b, o, rfl, hb, hc⟩
  · exact .inl h3
  · exact .inr ⟨b, o, rfl, hb, fun i hi => ⟨(hc i hi).o, (hc i hi).f, (hc i hi).t, (hc i hi).k⟩⟩
abbrev pP (ps : List PartM) (i : Nat) : Bool := decide (partOk (ps.getD i pz).k (ps.getD i pz).v (ps.getD i pz).s (ps.getD i pz).h.length)
abbrev pC (ps : List PartM) (i : Nat) : Int := cmpI (ps.getD i pz).k (ps.getD (i + 1) pz).k
abbrev nP (ns : List NeedM) (i : Nat) : Bool := decide (needOk (ns.getD i nz).o (ns.getD i nz).f (ns.getD i nz).t (ns.getD i nz).k)
abbrev nC (ns : List NeedM) (i : Nat) : Int := ndC (ns.getD i nz).o (ns.getD i nz).f (ns.getD i nz).t (ns.getD i nz).k (ns.getD (i + 1) nz).o (ns.getD (i + 1) nz).f (ns.getD (i + 1) nz).t (ns.getD (i + 1) nz).k
theorem pLst {n : Nat} {ps : List PartM} (h : ps.length = n) : lstOk n 4 (pP ps) (pC ps) = true ↔ ps.length ≤ 4 ∧ ∀ i, i < ps.length → pOkAt ps i := by
  subst h
  unfold lstOk
  rw [decide_eq_true_iff]
  constructor
  · rintro ⟨h1, h2⟩
    refine ⟨by omega, fun j hj => ?_⟩
    obtain ⟨a, b⟩ := h2 j hj
    refine ⟨of_decide_eq_true a, fun hp => ?_⟩
    have := b hp
    rw [cmpI_neg, show j - 1 + 1 = j by omega] at this
    exact this
  · rintro ⟨h1, h2⟩
    refine ⟨by omega, fun j hj => ?_⟩
    obtain ⟨a, b⟩ := h2 j hj
    refine ⟨decide_eq_true a, fun hp => ?_⟩
    rw [cmpI_neg, show j - 1 + 1 = j by omega]
    exact b hp
theorem nLst {n : Nat} {ns : List NeedM} (h : ns.length = n) : lstOk n 8 (nP ns) (nC ns) = true ↔ ns.length ≤ 8 ∧ ∀ i, i < ns.length → nOkAt ns i := by
  subst h
  unfold lstOk
  rw [decide_eq_true_iff]
  constructor
  · rintro ⟨h1, h2⟩
    refine ⟨by omega, fun j hj => ?_⟩
    obtain ⟨a, b⟩ := h2 j hj
    refine ⟨of_decide_eq_true a, fun hp => ?_⟩
    have := b hp
    rw [ndC_neg, show j - 1 + 1 = j by omega] at this
    exact this
  · rintro ⟨h1, h2⟩
    refine ⟨by omega, fun j hj => ?_⟩
    obtain ⟨a, b⟩ := h2 j hj
    refine ⟨decide_eq_true a, fun hp => ?_⟩
    rw [ndC_neg, show j - 1 + 1 = j by omega]
    exact b hp
theorem implBundleOk (pa : Option Addr) (pn pc : Nat) (na : Option Addr) (nn nc : Nat) (B : BunM) (w : World) (hp : Ps w pa pn pc B.ps) (hn : Ns w na nn nc B.ns) :
    Calls Tryd.prog 31 #[.agg #[.int .i64 B.d, .int .i64 B.n, .int .i64 B.f, .slice pa pn pc, .slice na nn nc]] w fun e w' => e = .returned (.bool (bOk B)) ∧ Below w.heap.size w w' := by
  obtain ⟨W, hW⟩ : ∃ W, W = w.alloc (.cells #[.int .i64 B.d, .int .i64 B.n, .int .i64 B.f, .slice pa pn pc, .slice na nn nc] 32) := ⟨_, rfl⟩
  have A : Arr W w.heap.size 32 [.int .i64 B.d, .int .i64 B.n, .int .i64 B.f, .slice pa pn pc, .slice na nn nc] := by rw [hW]; exact Arr.new _ _ _
  have Bl : Below w.heap.size w W := by rw [hW]; exact (Below.refl _ _).alloc (Nat.le_refl _) _
  have lp := hp.2.1
  have ln := hn.2.1
  obtain ⟨R, hR, HT, HF⟩ := bOk_dec B
  rw [hR]
  clear hR
  have CP : Hid (∀ Z, Below w.heap.size w Z → Calls Tryd.prog 55 #[.slice pa pn pc, .int .i64 4, .func (.func 56) #[] #[], .func (.func 57) #[] #[]] Z fun e w' => e = .returned (.bool (lstOk pn 4 (pP B.ps) (pC B.ps))) ∧ Below Z.heap.size Z w') := fun Z hZ => by
    obtain ⟨f, hr⟩ := (hp.below hZ).row
    exact implListOkPart pa pn pc 4 (by omega) _ _ _ Z hr (fun i hi => ⟨_, _, _, _, _, _, rfl⟩) (fun i hi W hW => implPartOk _ _ _ _ _ _ W) (fun i hi W hW => implComparePart _ _ _ _ _ _ _ _ _ _ _ _ W)
  have CN : Hid (∀ Z, Below w.heap.size w Z → Calls Tryd.prog 58 #[.slice na nn nc, .int .i64 8, .func (.func 59) #[] #[], .func (.func 60) #[] #[]] Z fun e w' => e = .returned (.bool (lstOk nn 8 (nP B.ns) (nC B.ns))) ∧ Below Z.heap.size Z w') := fun Z hZ =>
    implListOkNeed na nn nc 8 (by omega) _ _ _ Z (hn.below hZ).row (fun i hi => ⟨_, _, _, _, rfl⟩) (fun i hi W hW => implNeedOk _ _ _ _ W) (fun i hi W hW => implCompareNeed _ _ _ _ _ _ _ _ W)
  have LP := pLst lp
  have LN := nLst ln
  obtain ⟨qp, hqp⟩ : ∃ q, q = lstOk pn 4 (pP B.ps) (pC B.ps) := ⟨_, rfl⟩
  obtain ⟨qn, hqn⟩ : ∃ q, q = lstOk nn 8 (nP B.ns) (nC B.ns) := ⟨_, rfl⟩
  rw [← hqp] at CP LP
  rw [← hqn] at CN LN
  clear hqp hqn hp hn
  have HT2 : Hid ((0 ≤ B.d ∧ B.d ≤ 1000) → (1 ≤ B.n ∧ B.n ≤ 1000) → (0 ≤ B.f ∧ B.f ≤ 1000) → 0 < pn → qp = true → qn = true → R = true) := fun h1 h2 h3 h4 h5 h6 => HT.out ⟨⟨h1, h2, h3, ⟨by omega, (LP.1 h5).1⟩, (LN.1 h6).1⟩, (LP.1 h5).2, (LN.1 h6).2⟩
  have HF1 : Hid (¬ (0 ≤ B.d ∧ B.d ≤ 1000) → R = false) := fun h => HF.out fun g => h g.1.1
  have HF2 : Hid (¬ (1 ≤ B.n ∧ B.n ≤ 1000) → R = false) := fun h => HF.out fun g => h g.1.2.1
  have HF3 : Hid (¬ (0 ≤ B.f ∧ B.f ≤ 1000) → R = false) := fun h => HF.out fun g => h g.1.2.2.1
  have HF4 : Hid (¬ 0 < pn → R = false) := fun h => HF.out fun g => by have := g.1.2.2.2.1; omega
  have HF5 : Hid (qp = false → R = false) := fun h => HF.out fun g => by rw [LP.2 ⟨g.1.2.2.2.1.2, g.2.1⟩] at h; cases h
  have HF6 : Hid (qn = false → R = false) := fun h => HF.out fun g => by rw [LN.2 ⟨g.1.2.2.2.2, g.2.2⟩] at h; cases h
  obtain ⟨d, n, f, ps, ns⟩ := B
  simp only [] at *
  clear HT HF LP LN lp ln
  have c0 := A.cell 0
  have c1 := A.cell 1
  have c2 := A.cell 2
  have c3 := A.cell 3
  have c4 := A.cell 4
  simp at c0 c1 c2 c3 c4
  go_enter Tryd.func31, Tryd.ntmps31
  go_upto_region 1 with fail
  rw [← hW]
  clear hW
  go_wp2_with fail
  refine (implIsVersion d _).mono ?_
  rintro e w1 ⟨rfl, hw⟩
  rw [hw]
  clear hw
  by_cases h1 : 0 ≤ d ∧ d ≤ 1000
  case neg =>
    rw [decide_eq_false h1]
    have HN := HF1.out h1
    clear HF1 HF2 HF3 HF4 HF5 HF6 HT2
    go_wp2
    go_ret
    exact ⟨by rw [HN]; rfl, Bl⟩
  rw [decide_eq_true h1]
  go_wp2_with fail
  refine (implIsNum n _).mono ?_
  rintro e w1 ⟨rfl, hw⟩
  rw [hw]
  clear hw
  by_cases h2 : 1 ≤ n ∧ n ≤ 1000
  case neg =>
    rw [decide_eq_false h2]
    have HN := HF2.out h2
    go_wp2
    go_ret
    exact ⟨by rw [HN]; rfl, Bl⟩
  rw [decide_eq_true h2]
  go_wp2_with fail
  refine (implIsVersion f _).mono ?_
  rintro e w1 ⟨rfl, hw⟩
  rw [hw]
  clear hw
  by_cases h3 : 0 ≤ f ∧ f ≤ 1000
  case neg =>
    rw [decide_eq_false h3]
    have HN := HF3.out h3
    go_wp2
    go_ret
    exact ⟨by rw [HN]; rfl, Bl⟩
  rw [decide_eq_true h3]
  by_cases h4 : 0 < (pn : Int)
  case neg =>
    have HN := HF4.out (by omega)
    have g4 : decide (0 < (pn : Int)) = false := decide_eq_false h4
    go_wp2
    go_ret
    exact ⟨by rw [HN]; rfl, Bl⟩
  have HT3 : Hid (qp = true → qn = true → R = true) := HT2.out h1 h2 h3 (by omega)
  clear HT2 HF1 HF2 HF3 HF4 h1 h2 h3
  go_wp2_with fail
  refine Calls.mono (CP.out _ Bl) ?_
  rintro e w1 ⟨rfl, hb⟩
  replace A := A.kept hb
  replace Bl := Bl.trans (hb.mono Bl.size)
  clear hb c0 c1 c2 c3 c4
  have c4 := A.cell 4
  simp at c4
  cases qp with
  | false =>
    have HN := HF5.out (by simp)
    go_wp2
    go_ret
    exact ⟨by rw [HN]; rfl, Bl⟩
  | true =>
    go_wp2_with fail
    refine Calls.mono (CN.out _ Bl) ?_
    rintro e w2 ⟨rfl, hb⟩
    replace Bl := Bl.trans (hb.mono Bl.size)
    clear hb c4
    have HQ : Hid (R = qn) := by
      cases qn with
      | false => exact HF6.out (by simp)
      | true => exact HT3.out (by simp) (by simp)
    clear HF6 HT3 HF5 CP CN
    go_wp2
    go_ret
    exact ⟨by rw [HQ.out]; rfl, Bl⟩
end Go.Proofs.YtgfjbaigmkdbcaaDoor
namespace Go.Proofs.YtgfjbaigmkdbcaaDoor
open Go.RowKit
/-- A record. -/
structure Rc where
  k : Int
  b : Int
  n : Int
  f : Int
/-- A state. -/
structure Bt where
  b : Int
  n : Int
  f : Int
  t : Bool
  i : Int
  o : Int
abbrev btC (s : Bt) : List Value := [.int .i64 s.b, .int .i64 s.n, .int .i64 s.f, .bool s.t, .int .i64 s.i, .int .i64 s.o]
abbrev rcC (r : Rc) : List Value := [.int .i64 r.k, .int .i64 r.b, .int .i64 r.n, .int .i64 r.f]
abbrev btW (s : Bt) : Value := btV s.b s.n s.f s.t s.i s.o
abbrev stV (s : Bt × Bool) : Value := .tuple #[btW s.1, .bool s.2]
abbrev Rc.Ok (r : Rc) : Prop := rcOk r.k r.b r.n r.f
abbrev Bt.Ok (s : Bt) : Prop := btOk s.b s.n s.f s.t s.i s.o
/-- What a record leaves of a state, and whether it fits. -/
def stT (s : Bt) (r : Rc) : Bt × Bool :=
  if r.k = 3 then (if s.t = true ∨ r.b = s.b then (s, false) else (⟨r.b, r.n, s.f, true, 0, s.n⟩, true))
  else if r.k = 4 then (if s.t = false ∨ 3 ≤ s.i then (s, false) else (⟨s.b, s.n, s.f, s.t, s.i + 1, s.o⟩, true))
  else if r.k = 5 then (if s.t = false then (s, false) else (⟨s.b, s.n, max s.f r.f, false, 0, 0⟩, true))
  else if r.k = 6 then (if s.t = false then (s, false) else (⟨1 - s.b, s.o, s.f, false, 0, 0⟩, true))
  else (s, false)
/-- What Step answers. -/
def stepT (s : Bt) (r : Rc) : Bt × Bool := if s.Ok ∧ r.Ok then stT s r else (⟨0, 0, 0, false, 0, 0⟩, false)
theorem stT_ok {s : Bt} {r : Rc} (hs : s.Ok) (hr : r.Ok) : (stT s r).1.Ok := by
  obtain ⟨b, n, f, t, i, o⟩ := s
  obtain ⟨k, rb, rn, rf⟩ := r
  unfold stT
  dsimp only [Bt.Ok, Rc.Ok] at hs hr ⊢
  obtain ⟨h1, h2, h3, h4⟩ := hs
  split
  · split
    · exact ⟨h1, h2, h3, h4⟩
    · next h5 h6 =>
      cases t
      · exact ⟨by dsimp only; omega, by dsimp only; omega, by dsimp only; omega, by rw [if_pos rfl]; dsimp only; omega⟩
      · exact absurd (.inl rfl) h6
  split
  · split
    · exact ⟨h1, h2, h3, h4⟩
    · next h5 h6 =>
      cases t
      · exact absurd (.inl rfl) h6
      · rw [if_pos rfl] at h4
        exact ⟨h1, h2, h3, by rw [if_pos rfl]; dsimp only; omega⟩
  split
  · split
    · exact ⟨h1, h2, h3, h4⟩
    · exact ⟨h1, h2, by dsimp only; omega, by rw [if_neg (by simp)]; exact ⟨rfl, rfl⟩⟩
  split
  · split
    · exact ⟨h1, h2, h3, h4⟩
    · next h5 h6 =>
      cases t
      · exact absurd rfl h6
      · rw [if_pos rfl] at h4
        exact ⟨by dsimp only; omega, by dsimp only; omega, h3, by rw [if_neg (by simp)]; exact ⟨rfl, rfl⟩⟩
  exact ⟨h1, h2, h3, h4⟩
theorem stT_floor {s : Bt} {r : Rc} : s.f ≤ (stT s r).1.f := by
  unfold stT
  repeat' split
  all_goals first | exact Int.le_refl _ | (dsimp only; omega)
end Go.Proofs.YtgfjbaigmkdbcaaDoor
namespace Go.Proofs.YtgfjbaigmkdbcaaDoor
open Go.RowKit
set_option maxRecDepth 100000

abbrev rz : Rc := ⟨0, 0, 0, 0⟩
def rg (xs : List Rc) (i : Nat) : Rc := xs.getD i rz
/-- The cells of records in a row. -/
def FL : List Rc → List Value
  | [] => []
  | r :: t => .int .i64 r.k :: .int .i64 r.b :: .int .i64 r.n :: .int .i64 r.f :: FL t
theorem FL_len : ∀ xs : List Rc, (FL xs).length = xs.length * 4
  | [] => rfl
  | _ :: t => by simp [FL, FL_len t]; omega
theorem FL_get : ∀ (xs : List Rc) (i : Nat), i < xs.length → (FL xs)[i * 4]? = some (.int .i64 (rg xs i).k) ∧ (FL xs)[i * 4 + 1]? = some (.int .i64 (rg xs i).b) ∧ (FL xs)[i * 4 + 2]? = some (.int .i64 (rg xs i).n) ∧ (FL xs)[i * 4 + 3]? = some (.int .i64 (rg xs i).f)
  | [], i, h => by simp at h
  | r :: t, 0, _ => ⟨rfl, rfl, rfl, rfl⟩
  | r :: t, i + 1, h => by
    have e : (i + 1) * 4 = i * 4 + 4 := by omega
    rw [e]
    exact FL_get t i (by simpa using h)
theorem FL_set : ∀ (xs : List Rc) (i : Nat) (r : Rc), i < xs.length → FL (xs.set i r) = ((((FL xs).set (i * 4) (.int .i64 r.k)).set (i * 4 + 1) (.int .i64 r.b)).set (i * 4 + 2) (.int .i64 r.n)).set (i * 4 + 3) (.int .i64 r.f)
  | [], i, r, h => by simp at h
  | x :: t, 0, r, _ => rfl
  | x :: t, i + 1, r, h => by
    have e : (i + 1) * 4 = i * 4 + 4 := by omega
    rw [e]
    show _ :: _ :: _ :: _ :: FL (t.set i r) = _ :: _ :: _ :: _ :: _
    rw [FL_set t i r (by simpa using h)]
theorem FL_app : ∀ xs ys : List Rc, FL (xs ++ ys) = FL xs ++ FL ys
  | [], _ => rfl
  | x :: t, ys => by show _ :: _ :: _ :: _ :: FL (t ++ ys) = _; rw [FL_app t ys]; rfl
theorem FL_rep (n : Nat) : (madeCells #[Value.int .i64 0, .int .i64 0, .int .i64 0, .int .i64 0] (n * 4)).toList = FL (List.replicate n rz) := by
  apply List.ext_getElem?
  intro i
  by_cases hi : i < n * 4
  · have h1 : (madeCells #[Value.int .i64 0, .int .i64 0, .int .i64 0, .int .i64 0] (n * 4)).toList[i]? = some (.int .i64 0) := by
      unfold madeCells
      have : i % 4 = 0 ∨ i % 4 = 1 ∨ i % 4 = 2 ∨ i % 4 = 3 := by omega
      simp [hi]
      rcases this with h | h | h | h <;> simp [h]
    rw [h1]
    obtain ⟨a, b, c, d⟩ := FL_get (List.replicate n rz) (i / 4) (by simp; omega)
    have e : rg (List.replicate n rz) (i / 4) = rz := by unfold rg; simp only [List.getD_eq_getElem?_getD, List.getElem?_replicate]; split <;> rfl
    rw [e] at a b c d
    have : i = i / 4 * 4 ∨ i = i / 4 * 4 + 1 ∨ i = i / 4 * 4 + 2 ∨ i = i / 4 * 4 + 3 := by omega
    rcases this with h | h | h | h <;> rw [h]
    · exact a.symm
    · exact b.symm
    · exact c.symm
    · exact d.symm
  · rw [List.getElem?_eq_none (by rw [Array.length_toList, size_madeCells]; omega), List.getElem?_eq_none (by rw [FL_len]; simp; omega)]
theorem rg_set (xs : List Rc) (i j : Nat) (r : Rc) (h : i < xs.length) : rg (xs.set i r) j = if j = i then r else rg xs j := by
  unfold rg
  by_cases e : j = i
  · subst e; simp [h]
  · have e' : ¬ i = j := fun h => e h.symm
    simp [e, e']
theorem rg_ext {xs ys : List Rc} (h : xs.length = ys.length) (hg : ∀ i, i < xs.length → rg xs i = rg ys i) : xs = ys := by
  apply List.ext_getElem h
  intro i h1 h2
  have := hg i h1
  unfold rg at this
  simpa [h1, h2] using this
theorem rg_take (xs : List Rc) (k i : Nat) (h : i < k) : rg (xs.take k) i = rg xs i := by
  unfold rg
  simp [List.getD_eq_getElem?_getD, h]
theorem rc_snoc (xs : List Rc) (k : Nat) (h : k < xs.length) : xs.take (k + 1) = xs.take k ++ [rg xs k] := by
  rw [List.take_succ_eq_append_getElem h]; simp [rg, h]
structure Rat (W : World) (b o : Nat) (r : Rc) : Prop where
  h0 : W.cell? ⟨b, o, none⟩ = some (.int .i64 r.k)
  h1 : W.cell? ⟨b, o + 1, none⟩ = some (.int .i64 r.b)
  h2 : W.cell? ⟨b, o + 2, none⟩ = some (.int .i64 r.n)
  h3 : W.cell? ⟨b, o + 3, none⟩ = some (.int .i64 r.f)
theorem Rat.below {W W' : World} {b o : Nat} {x : Rc} (h : Rat W b o x) (l : b < W.heap.size) (hb : Below W.heap.size W W') : Rat W' b o x :=
  ⟨(hb.cell (p := ⟨b, _, none⟩) l).trans h.h0, (hb.cell (p := ⟨b, _, none⟩) l).trans h.h1, (hb.cell (p := ⟨b, _, none⟩) l).trans h.h2, (hb.cell (p := ⟨b, _, none⟩) l).trans h.h3⟩
/-- What a slice of records reads as. -/
def Rs (w : World) (a : Option Addr) (n cap : Nat) (xs : List Rc) : Prop :=
  (a = none → cap = 0) ∧ xs.length = n ∧ n ≤ cap ∧ (n = 0 ∨ ∃ b o, a = some ⟨b, o, none⟩ ∧ b < w.heap.size ∧ ∀ i, i < n → Rat w b (o + i * 4) (rg xs i))
theorem Rs.below {w w' : World} {a : Option Addr} {n cap : Nat} {xs : List Rc} (h : Rs w a n cap xs) (hb : Below w.heap.size w w') : Rs w' a n cap xs := by
  obtain ⟨h0, h1, h2, h4⟩ := h
  refine ⟨h0, h1, h2, ?_⟩
  rcases h4 with h4 | ⟨b, o, ha, hlt, hc⟩
  · exact .inl h4
  · exact .inr ⟨b, o, ha, Nat.lt_of_lt_of_le hlt hb.size, fun j hj => (hc j hj).below hlt hb⟩
theorem Rs.opened {w : World} {a : Option Addr} {n cap : Nat} {xs : List Rc} (h : Rs w a n cap xs) (hn : 0 < n) : ∃ b o, a = some ⟨b, o, none⟩ ∧ b < w.heap.size ∧ ∀ i, i < n → Rat w b (o + i * 4) (rg xs i) := by
  rcases h.2.2.2 with h | h
  · omega
  · exact h
section
variable {w : World} {lo t n cap g : Nat} {xs : List Rc}
theorem rq_len {v : Value} (h : w.ownsRow lo t 4 v n (FL xs)) : xs.length = n := by have := h.1; rw [FL_len] at this; omega
theorem rq_at (h : w.ownsRow lo t 4 (.slice (some ⟨g, 0, none⟩) n cap) n (FL xs)) (i : Nat) (hi : i < n) : Rat w g (i * 4) (rg xs i) := by
  have hl := rq_len h
  obtain ⟨a, b, c, d⟩ := FL_get xs i (by omega)
  exact ⟨(h.cellAt _ (by omega)).trans a, (h.cellAt _ (by omega)).trans b, (h.cellAt _ (by omega)).trans c, (h.cellAt _ (by omega)).trans d⟩
theorem rq_set (h : w.ownsRow lo t 4 (.slice (some ⟨g, 0, none⟩) n cap) n (FL xs)) (i : Nat) (hi : i < n) (r : Rc) :
    ((((w.setCell ⟨g, i * 4, none⟩ (.int .i64 r.k)).setCell ⟨g, i * 4 + 1, none⟩ (.int .i64 r.b)).setCell ⟨g, i * 4 + 2, none⟩ (.int .i64 r.n)).setCell ⟨g, i * 4 + 3, none⟩ (.int .i64 r.f)).ownsRow lo t 4 (.slice (some ⟨g, 0, none⟩) n cap) n (FL (xs.set i r)) := by
  rw [FL_set xs i r (by rw [rq_len h]; exact hi)]
  exact ((((h.stored (i * 4) (.int .i64 r.k)).1.stored (i * 4 + 1) (.int .i64 r.b)).1.stored (i * 4 + 2) (.int .i64 r.n)).1.stored (i * 4 + 3) (.int .i64 r.f)).1
theorem Rs.own {v : Value} (h : w.ownsRow lo t 4 v n (FL xs)) : ∃ a cap, v = .slice a n cap ∧ cap ≤ maxLen ∧ Rs w a n cap xs := by
  have hl := rq_len h
  rcases h.2 with ⟨rfl, rfl⟩ | ⟨g, cap, cur, rfl, hg, hgg, h1, h2, h3, h4⟩
  · exact ⟨none, 0, rfl, by unfold maxLen; omega, fun _ => rfl, hl, Nat.le_refl _, .inl rfl⟩
  · exact ⟨_, cap, rfl, h2, (fun h => by cases h), hl, h1, .inr ⟨g, 0, rfl, (Array.getElem?_eq_some_iff.1 hgg).1, fun i hi => by simpa using rq_at h i hi⟩⟩
theorem rs_of_own {a : Option Addr} {c : Nat} (h : w.ownsRow lo t 4 (.slice a n c) n (FL xs)) : Rs w a n c xs := by
  obtain ⟨a', c', e, _, hb⟩ := Rs.own h
  simp only [Value.slice.injEq, true_and] at e
  obtain ⟨rfl, rfl⟩ := e
  exact hb
end
/-- A row of records within [lo, hi). -/
structure Rq (W : World) (lo hi e : Nat) (v : Value) (n : Nat) (l : List Rc) : Prop where
  o : W.ownsRow lo e 4 v n (FL l)
  i : In v lo hi
  z : hi ≤ W.heap.size
section
variable {W W' : World} {lo hi e n : Nat} {v : Value} {l : List Rc}
theorem Rq.new (o : W.ownsRow lo e 4 v n (FL l)) : Rq W lo W.heap.size e v n l := ⟨o, In.of o, Nat.le_refl _⟩
theorem Rq.chg (h : Rq W lo hi e v n l) {a b : Nat} (hc : Chg W W' a b) (hl : hi ≤ a ∨ b ≤ lo ∨ b ≤ a) : Rq W' lo hi e v n l := by
  by_cases hab : b ≤ a
  · have hc' : Chg W W' hi hi := ⟨hc.os, hc.tape, hc.output, hc.size, fun i hi _ => hc.block i hi (by omega)⟩
    exact ⟨own_chg h.o h.i hc' (by omega), h.i, Nat.le_trans h.z hc.size⟩
  · exact ⟨own_chg h.o h.i hc (by omega), h.i, Nat.le_trans h.z hc.size⟩
theorem Rq.marked (h : Rq W lo hi e v n l) {l' : List Rc} (hg : W.grownBy W' v.ownBlock) (o : W'.ownsRow lo e 4 v n (FL l')) : Rq W' lo hi e v n l' := ⟨o, h.i, Nat.le_trans h.z hg.size⟩
theorem Rq.gr (h : Rq W lo hi e v n l) (hg : W.grownBy W' v.ownBlock) : Chg W W' lo hi := .of_grown hg h.i
end
end Go.Proofs.YtgfjbaigmkdbcaaDoor
namespace Go.Proofs.YtgfjbaigmkdbcaaDoor
open Go.RowKit
set_option maxRecDepth 100000
set_option maxHeartbeats 1000000

theorem toNeedC (k b n f : Int) (w : World) : Calls Tryd.prog 53 #[rcV k b n f] w fun e w' => e = .returned (rcV k b n f) ∧ Below w.heap.size w w' := by
  have B : Hid (∀ o1 o2 o3 : Obj, Below w.heap.size w (((w.alloc o1).alloc o2).alloc o3)) := fun o1 o2 o3 => (((Below.refl _ _).alloc (Nat.le_refl _) _).alloc (by simp) _).alloc (by simp; omega) _
  go_enter Tryd.func53, Tryd.ntmps53
  go_wp2
  exact bodyPost_ret (results_cell_row rfl _ _ (w.heap.size + 1) 65 _ (0, 0) _ rfl (heap_mid _ _ _ _) Tryd.underlying65 rfl (by kernel_rfl)) rfl ⟨rfl, B.out _ _ _⟩
theorem eqNeedC (k b n f : Int) (w : World) : Calls Tryd.prog 64 #[rcV k b n f, rcV k b n f] w fun e w' => e = .returned (.bool true) ∧ Below w.heap.size w w' := by
  have B : Hid (∀ o1 o2 : Obj, Below w.heap.size w ((w.alloc o1).alloc o2)) := fun o1 o2 => ((Below.refl _ _).alloc (Nat.le_refl _) _).alloc (by simp) _
  have h1 : (k != k) = false := by simp
  have h2 : (b != b) = false := by simp
  have h3 : (n != n) = false := by simp
  have h4 : (f != f) = false := by simp
  go_enter Tryd.func64, Tryd.ntmps64
  go_wp2
  go_ret
  exact ⟨rfl, B.out _ _⟩
end Go.Proofs.YtgfjbaigmkdbcaaDoor
namespace Go.Proofs.YtgfjbaigmkdbcaaDoor
open Go.RowKit
set_option maxRecDepth 100000
set_option linter.unusedVariables false

theorem bel_row4 {w W : World} {B g : Nat} (h : Below B w W) (hg : B ≤ g) (m : Nat) (a b c d : Value) : Below B w ((((W.setCell ⟨g, m, none⟩ a).setCell ⟨g, m + 1, none⟩ b).setCell ⟨g, m + 2, none⟩ c).setCell ⟨g, m + 3, none⟩ d) :=
  (((h.setCell hg _).setCell hg _).setCell hg _).setCell hg _
def mkR (k0 : Int) (n : Nat) : List Rc := (List.range n).map fun (i : Nat) => ⟨k0 + 4 * (i : Int), k0 + 4 * (i : Int) + 1, k0 + 4 * (i : Int) + 2, k0 + 4 * (i : Int) + 3⟩
theorem mkR_len (k0 : Int) (n : Nat) : (mkR k0 n).length = n := by simp [mkR]
theorem mkR_get (k0 : Int) (n i : Nat) (h : i < n) : rg (mkR k0 n) i = ⟨k0 + 4 * (i : Int), k0 + 4 * (i : Int) + 1, k0 + 4 * (i : Int) + 2, k0 + 4 * (i : Int) + 3⟩ := by simp [rg, mkR, h]
theorem grown_row4 {W : World} {g : Nat} (m : Nat) (a b c d : Value) : W.grownBy ((((W.setCell ⟨g, m, none⟩ a).setCell ⟨g, m + 1, none⟩ b).setCell ⟨g, m + 2, none⟩ c).setCell ⟨g, m + 3, none⟩ d) (some g) :=
  ⟨rfl, rfl, rfl, by simp, fun i hi hne => by
    have e : ∀ (X : World) (q : Nat) (v : Value), (X.setCell ⟨g, q, none⟩ v).heap[i]? = X.heap[i]? := fun X q v => heap_setCell_other X ⟨g, q, none⟩ i v (fun h => hne (by rw [h]))
    rw [e, e, e, e]⟩
theorem grown_tr {a b c : World} {r : Option Nat} (h : a.grownBy b r) (h' : b.grownBy c r) : a.grownBy c r :=
  ⟨h'.os.trans h.os, h'.tape.trans h.tape, h'.output.trans h.output, Nat.le_trans h.size h'.size, fun i hi hne => (h'.block i (Nat.lt_of_lt_of_le hi h.size) hne).trans (h.block i hi hne)⟩
end Go.Proofs.YtgfjbaigmkdbcaaDoor

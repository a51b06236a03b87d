/-
  What is proved here: what the laws' toPartS, eqPartS, szPartS answer, and rows of such elements in memory of their own; records and states as plain data; no program is spoken of; what a record does to a state, as plain data; no program is spoken of; rows of records in memory, four cells each; no program is spoken of; what the laws' toNeed and eqNeed answer; rows of records of four ints: stores of four cells, marks; no program is spoken of; what the laws' helpers on lists of Need do: toNeedS and the like; what the laws' toBundle, eqBundle, szBundle answer.
-/
import Derived.Test.YtofflhhlacdgfaaDoorJM17
import Derived.Test.YtofflhhlacdgfaaDoorTm
import Derived.Test.YtofflhhlacdgfaaDoorJM2
import Derived.Test.YtofflhhlacdgfaaDoorJM1
import Derived.Test.YtofflhhlacdgfaaDoorJM5
namespace Go.Proofs.YtofflhhlacdgfaaDoor
open Go.RowKit
set_option maxRecDepth 100000
set_option maxHeartbeats 4000000
set_option linter.unusedVariables false

/-- A row of its own from block lo on, whose inner rows lie behind it. -/
structure Pq (lo : Nat) (W : World) (a : Option Addr) (n c : Nat) (xs : List PartM) : Prop where
  len : xs.length = n
  cap : n ≤ c
  row : ∃ g l, a = some ⟨g, 0, none⟩ ∧ lo ≤ g ∧ g < W.heap.size ∧ W.ownsRow lo 45 4 (.slice a n c) n (QL l) ∧ (∀ q, q < n → ∃ b d, lg l q = part4 (xs.getD q pz) b d ∧ W.ownsRow (g + 1) 5 1 (.slice b (xs.getD q pz).h.length d) (xs.getD q pz).h.length (U8 (xs.getD q pz).h)) ∧ ∀ q q', q < q' → q' < n → Apart (lg l q).d (lg l q').d
theorem Pq.below {lo : Nat} {W W' : World} {a : Option Addr} {n c : Nat} {xs : List PartM} (h : Pq lo W a n c xs) (hb : Below W.heap.size W W') : Pq lo W' a n c xs := by
  obtain ⟨h0, h1, g, l, rfl, h2, h3, h4, h5, h6⟩ := h
  refine ⟨h0, h1, g, l, rfl, h2, Nat.lt_of_lt_of_le h3 hb.size, own_below h4 hb, fun q hq => ?_, h6⟩
  obtain ⟨b, d, e, o⟩ := h5 q hq
  exact ⟨b, d, e, own_below o hb⟩
theorem Pq.other {lo : Nat} {W : World} {a : Option Addr} {n c : Nat} {xs : List PartM} (h : Pq lo W a n c xs) (p : Addr) (u : Value) (hp : p.block < lo) : Pq lo (W.setCell p u) a n c xs := by
  obtain ⟨h0, h1, g, l, rfl, h2, h3, h4, h5, h6⟩ := h
  refine ⟨h0, h1, g, l, rfl, h2, by simpa using h3, own_other h4 p u hp, fun q hq => ?_, h6⟩
  obtain ⟨b, d, e, o⟩ := h5 q hq
  exact ⟨b, d, e, own_other o p u (by omega)⟩
theorem Pq.base {lo lo' : Nat} {W : World} {a : Option Addr} {n c : Nat} {xs : List PartM} (h : Pq lo W a n c xs) (hl : lo' ≤ lo) : Pq lo' W a n c xs := by
  obtain ⟨h0, h1, g, l, rfl, h2, h3, h4, h5, h6⟩ := h
  exact ⟨h0, h1, g, l, rfl, by omega, h3, own_base h4 hl, h5, h6⟩
abbrev PqBy (xs : List PartM) : Prop := ∀ q, q < xs.length → ∀ x ∈ (xs.getD q pz).h, 0 ≤ x ∧ x < 256
theorem Pq.rd {lo : Nat} {W : World} {a : Option Addr} {n c : Nat} {xs : List PartM} (h : Pq lo W a n c xs) (hy : PqBy xs) : Ps W a n c xs := by
  obtain ⟨h0, h1, g, l, rfl, h2, h3, h4, h5, _⟩ := h
  refine ⟨(fun h => by cases h), h0, h1, .inr ⟨g, 0, rfl, h3, fun i hi => ?_⟩⟩
  obtain ⟨b, d, e, o⟩ := h5 i hi
  obtain ⟨q0, q1, q2, q3⟩ := q4_at h4 i hi
  rw [e] at q0 q1 q2 q3
  rw [Nat.zero_add]
  exact ⟨b, d, q0, q1, q2, q3, bs_of_own o (hy i (by omega))⟩
theorem Ps.by_ {W : World} {a : Option Addr} {n c : Nat} {xs : List PartM} (h : Ps W a n c xs) : PqBy xs := by
  obtain ⟨_, h1, _, h⟩ := h
  intro q hq
  rcases h with h | ⟨b, o, _, _, h⟩
  · omega
  · obtain ⟨_, _, P⟩ := h q (by omega)
    exact P.by_.2.2.2.1
theorem Ps.opened {W : World} {a : Option Addr} {n c : Nat} {xs : List PartM} (h : Ps W a n c xs) (hn : 0 < n) : ∃ b o, a = some ⟨b, o, none⟩ ∧ b < W.heap.size ∧ ∀ i, i < n → ∃ ha hc, PartAt W b (o + i * 4) (xs.getD i pz) ha hc := by
  rcases h.2.2.2 with h | h
  · omega
  · exact h
abbrev PqSm (n : Nat) (xs : List PartM) : Prop := n ≤ 1048576 ∧ ∀ q, q < n → (xs.getD q pz).h.length ≤ 1048576
theorem eqPartSC (a a' : Option Addr) (n cap cap' : Nat) (xs : List PartM) (w : World) (h : Ps w a n cap xs) (h' : Ps w a' n cap' xs) (hn : PqSm n xs) :
    Calls Tryd.prog 90 #[.slice a n cap, .slice a' n cap'] w fun e w' => e = .returned (.bool true) ∧ Below w.heap.size w w' := by
  have hne : ((n : Int) != (n : Int)) = false := by simp
  have hn1 := hn.1
  go_enter Tryd.func90, Tryd.ntmps90
  go_wp2
  go_loopw [5] (fun i wr => ∃ k : Nat, k ≤ n ∧ i = .int .i64 k ∧ Below w.heap.size w wr) (fun i _ => n - (intOf i).toNat)
  case atStart => exact ⟨0, Nat.zero_le _, rfl, Below.refl _ _⟩
  case round =>
    obtain ⟨k, hk, rfl, hb⟩ := hrel
    by_cases hlt : k < n
    · have hltI : (k : Int) < (n : Int) := by omega
      obtain ⟨b, o, rfl, hbs, hcell⟩ := h.opened (by omega)
      obtain ⟨b', o', rfl, hbs', hcell'⟩ := h'.opened (by omega)
      obtain ⟨x, hx⟩ : ∃ x, x = xs.getD k pz := ⟨_, rfl⟩
      obtain ⟨ha, hc, hr⟩ := hcell k hlt
      obtain ⟨ha', hc', hr'⟩ := hcell' k hlt
      have hsm := hn.2 k hlt
      rw [← hx] at hr hr' hsm
      clear hx hcell hcell'
      replace hr := hr.below hbs (hb.mono (Nat.le_refl _))
      replace hr' := hr'.below hbs' (hb.mono (Nat.le_refl _))
      obtain ⟨x0, x1, x2, p⟩ := x
      obtain ⟨c0, c1, c2, c3, hB⟩ := hr
      obtain ⟨d0, d1, d2, d3, hB'⟩ := hr'
      dsimp only at c0 c1 c2 c3 d0 d1 d2 d3 hB hB' hsm
      obtain ⟨m, hm⟩ : ∃ m, m = p.length := ⟨_, rfl⟩
      rw [← hm] at c3 d3 hB hB' hsm
      clear hm
      have l1 : b < wr.heap.size := Nat.lt_of_lt_of_le hbs hb.size
      have l2 : b' < wr.heap.size := Nat.lt_of_lt_of_le hbs' hb.size
      go_wp2
      try simp only [Act.put]
      refine tameG [kc 17 (.slice (some ⟨b, o, none⟩) n cap), kc 18 (.int .i64 (k : Int)), kc 19 (.pointer (some ⟨b, o + k * 4, none⟩)), kc 20 (partV x0 x1 x2 ha m hc), kc 21 (.slice (some ⟨b', o', none⟩) n cap'), kc 22 (.int .i64 (k : Int)), kc 23 (.pointer (some ⟨b', o' + k * 4, none⟩)), kc 24 (partV x0 x1 x2 ha' m hc'), kc 25 (.bool true), kc 26 (.bool false)] 10 (by kernel_rfl) (by kernel_rfl) (by kernel_rfl) (by repeat' first | exact trivial | apply kc_keeps | constructor) 0 (by kernel_rfl) (fun vv ll hh yW bW => ?_) (fun vv ll hh yW bW F ivh aph => ?_)
      · have x0' := (bW.cell (p := ⟨b, _, none⟩) l1).trans c0
        have x1' := (bW.cell (p := ⟨b, _, none⟩) l1).trans c1
        have x2' := (bW.cell (p := ⟨b, _, none⟩) l1).trans c2
        have x3' := (bW.cell (p := ⟨b, _, none⟩) l1).trans c3
        have y0 := (bW.cell (p := ⟨b', _, none⟩) l2).trans d0
        have y1 := (bW.cell (p := ⟨b', _, none⟩) l2).trans d1
        have y2 := (bW.cell (p := ⟨b', _, none⟩) l2).trans d2
        have y3 := (bW.cell (p := ⟨b', _, none⟩) l2).trans d3
        refine ⟨og (tp (by kernel_rfl)) (by kernel_rfl), og (tp (by kernel_rfl)) (by kernel_rfl), og (tp ?_) (by kernel_rfl), og (tp ?_) (by kernel_rfl), og (tp (by kernel_rfl)) (by kernel_rfl), og (tp (by kernel_rfl)) (by kernel_rfl), og (tp ?_) (by kernel_rfl), og (tp ?_) (by kernel_rfl), og (tc (eqPartC x0 x1 x2 ha m hc ha' hc' p _ (hB.below bW) (hB'.below bW) (by omega)) (by kernel_rfl)) (by kernel_rfl), og (tp (by kernel_rfl)) (by kernel_rfl), trivial⟩
        all_goals
          simp only [fillK, putT, List.setIfInBounds_toArray, List.set_cons_zero, List.set_cons_succ]
          unfold execOp
          go_simp
          try rfl
      clear F ivh aph
      obtain ⟨y, hy⟩ : ∃ z, z = yW := ⟨_, rfl⟩
      rw [← hy] at bW ⊢
      clear hy
      refine wpAny_done (by kernel_rfl) ?_ _
      simp only [fillK, putT, List.setIfInBounds_toArray, List.set_cons_zero, List.set_cons_succ]
      replace hb := hb.trans (bW.mono hb.size)
      clear bW c0 c1 c2 c3 d0 d1 d2 d3 hB hB'
      go_wp2
      go_roundw
      case rel => exact ⟨k + 1, by omega, by go_num, hb⟩
      case measure => simp [intOf]; omega
    · have hkn : k = n := by omega
      subst hkn
      go_wp2
      go_ret
      exact ⟨rfl, hb⟩
end Go.Proofs.YtofflhhlacdgfaaDoor
namespace Go.Proofs.YtofflhhlacdgfaaDoor
open Go.RowKit
set_option maxRecDepth 100000
set_option maxHeartbeats 1000000

theorem by_dec0 (P : Prop) [Decidable P] : ∃ R : Bool, decide P = R ∧ Hid (P → R = true) ∧ Hid (¬ P → R = false) := ⟨_, rfl, decide_eq_true, decide_eq_false⟩
/-- A record that may be. -/
abbrev rcOk (k b n f : Int) : Prop := (k = 1 ∧ b = 0 ∧ (0 ≤ n ∧ n ≤ 1000) ∧ f = 0) ∨ (k = 2 ∧ (0 ≤ b ∧ b ≤ 1) ∧ (1 ≤ n ∧ n ≤ 1000) ∧ (0 ≤ f ∧ f ≤ 1000)) ∨
  (k = 3 ∧ (0 ≤ b ∧ b ≤ 1) ∧ (1 ≤ n ∧ n ≤ 1000) ∧ f = 0) ∨ (k = 5 ∧ b = 0 ∧ n = 0 ∧ (0 ≤ f ∧ f ≤ 1000)) ∨ ((k = 4 ∨ k = 6) ∧ b = 0 ∧ n = 0 ∧ f = 0)
/-- A state that may be. -/
abbrev btOk (b n f : Int) (t : Bool) (i o : Int) : Prop := (0 ≤ b ∧ b ≤ 1) ∧ (1 ≤ n ∧ n ≤ 1000) ∧ (0 ≤ f ∧ f ≤ 1000) ∧ (if t = true then (0 ≤ i ∧ i ≤ 3) ∧ (1 ≤ o ∧ o ≤ 1000) else i = 0 ∧ o = 0)
abbrev rcV (k b n f : Int) : Value := .agg #[.int .i64 k, .int .i64 b, .int .i64 n, .int .i64 f]
abbrev btV (b n f : Int) (t : Bool) (i o : Int) : Value := .agg #[.int .i64 b, .int .i64 n, .int .i64 f, .bool t, .int .i64 i, .int .i64 o]

theorem heap_mid (w : World) (a b c : Obj) : (((w.alloc a).alloc b).alloc c).heap[w.heap.size + 1]? = some b := by
  rw [heap_alloc_old _ _ (by simp)]
  have := heap_alloc_new (w.alloc a) b
  simpa using this
end Go.Proofs.YtofflhhlacdgfaaDoor
namespace Go.Proofs.YtofflhhlacdgfaaDoor
open Go.RowKit
/-- A record. -/
structure Rc where
  k : Int
  b : Int
  n : Int
  f : Int
/-- A state. -/
structure Bt where
  b : Int
  n : Int
  f : Int
  t : Bool
  i : Int
  o : Int
abbrev btC (s : Bt) : List Value := [.int .i64 s.b, .int .i64 s.n, .int .i64 s.f, .bool s.t, .int .i64 s.i, .int .i64 s.o]
abbrev rcC (r : Rc) : List Value := [.int .i64 r.k, .int .i64 r.b, .int .i64 r.n, .int .i64 r.f]
abbrev btW (s : Bt) : Value := btV s.b s.n s.f s.t s.i s.o
abbrev stV (s : Bt × Bool) : Value := .tuple #[btW s.1, .bool s.2]
abbrev Rc.Ok (r : Rc) : Prop := rcOk r.k r.b r.n r.f
abbrev Bt.Ok (s : Bt) : Prop := btOk s.b s.n s.f s.t s.i s.o
/-- What a record leaves of a state, and whether it fits. -/
def stT (s : Bt) (r : Rc) : Bt × Bool :=
  if r.k = 3 then (if s.t = true ∨ r.b = s.b then (s, false) else (⟨r.b, r.n, s.f, true, 0, s.n⟩, true))
  else if r.k = 4 then (if s.t = false ∨ 3 ≤ s.i then (s, false) else (⟨s.b, s.n, s.f, s.t, s.i + 1, s.o⟩, true))
  else if r.k = 5 then (if s.t = false then (s, false) else (⟨s.b, s.n, max s.f r.f, false, 0, 0⟩, true))
  else if r.k = 6 then (if s.t = false then (s, false) else (⟨1 - s.b, s.o, s.f, false, 0, 0⟩, true))
  else (s, false)
/-- What Step answers. -/
def stepT (s : Bt) (r : Rc) : Bt × Bool := if s.Ok ∧ r.Ok then stT s r else (⟨0, 0, 0, false, 0, 0⟩, false)
theorem stT_ok {s : Bt} {r : Rc} (hs : s.Ok) (hr : r.Ok) : (stT s r).1.Ok := by
  obtain ⟨b, n, f, t, i, o⟩ := s
  obtain ⟨k, rb, rn, rf⟩ := r
  unfold stT
  dsimp only [Bt.Ok, Rc.Ok] at hs hr ⊢
  obtain ⟨h1, h2, h3, h4⟩ := hs
  split
  · split
    · exact ⟨h1, h2, h3, h4⟩
    · next h5 h6 =>
      cases t
      · exact ⟨by dsimp only; omega, by dsimp only; omega, by dsimp only; omega, by rw [if_pos rfl]; dsimp only; omega⟩
      · exact absurd (.inl rfl) h6
  split
  · split
    · exact ⟨h1, h2, h3, h4⟩
    · next h5 h6 =>
      cases t
      · exact absurd (.inl rfl) h6
      · rw [if_pos rfl] at h4
        exact ⟨h1, h2, h3, by rw [if_pos rfl]; dsimp only; omega⟩
  split
  · split
    · exact ⟨h1, h2, h3, h4⟩
    · exact ⟨h1, h2, by dsimp only; omega, by rw [if_neg (by simp)]; exact ⟨rfl, rfl⟩⟩
  split
  · split
    · exact ⟨h1, h2, h3, h4⟩
    · next h5 h6 =>
      cases t
      · exact absurd rfl h6
      · rw [if_pos rfl] at h4
        exact ⟨by dsimp only; omega, by dsimp only; omega, h3, by rw [if_neg (by simp)]; exact ⟨rfl, rfl⟩⟩
  exact ⟨h1, h2, h3, h4⟩
theorem stT_floor {s : Bt} {r : Rc} : s.f ≤ (stT s r).1.f := by
  unfold stT
  repeat' split
  all_goals first | exact Int.le_refl _ | (dsimp only; omega)
end Go.Proofs.YtofflhhlacdgfaaDoor
namespace Go.Proofs.YtofflhhlacdgfaaDoor
open Go.RowKit
set_option maxRecDepth 100000

abbrev rz : Rc := ⟨0, 0, 0, 0⟩
def rg (xs : List Rc) (i : Nat) : Rc := xs.getD i rz
/-- The cells of records in a row. -/
def FL : List Rc → List Value
  | [] => []
  | r :: t => .int .i64 r.k :: .int .i64 r.b :: .int .i64 r.n :: .int .i64 r.f :: FL t
theorem FL_len : ∀ xs : List Rc, (FL xs).length = xs.length * 4
  | [] => rfl
  | _ :: t => by simp [FL, FL_len t]; omega
theorem FL_get : ∀ (xs : List Rc) (i : Nat), i < xs.length → (FL xs)[i * 4]? = some (.int .i64 (rg xs i).k) ∧ (FL xs)[i * 4 + 1]? = some (.int .i64 (rg xs i).b) ∧ (FL xs)[i * 4 + 2]? = some (.int .i64 (rg xs i).n) ∧ (FL xs)[i * 4 + 3]? = some (.int .i64 (rg xs i).f)
  | [], i, h => by simp at h
  | r :: t, 0, _ => ⟨rfl, rfl, rfl, rfl⟩
  | r :: t, i + 1, h => by
    have e : (i + 1) * 4 = i * 4 + 4 := by omega
    rw [e]
    exact FL_get t i (by simpa using h)
theorem FL_set : ∀ (xs : List Rc) (i : Nat) (r : Rc), i < xs.length → FL (xs.set i r) = ((((FL xs).set (i * 4) (.int .i64 r.k)).set (i * 4 + 1) (.int .i64 r.b)).set (i * 4 + 2) (.int .i64 r.n)).set (i * 4 + 3) (.int .i64 r.f)
  | [], i, r, h => by simp at h
  | x :: t, 0, r, _ => rfl
  | x :: t, i + 1, r, h => by
    have e : (i + 1) * 4 = i * 4 + 4 := by omega
    rw [e]
    show _ :: _ :: _ :: _ :: FL (t.set i r) = _ :: _ :: _ :: _ :: _
    rw [FL_set t i r (by simpa using h)]
theorem FL_app : ∀ xs ys : List Rc, FL (xs ++ ys) = FL xs ++ FL ys
  | [], _ => rfl
  | x :: t, ys => by show _ :: _ :: _ :: _ :: FL (t ++ ys) = _; rw [FL_app t ys]; rfl
theorem FL_rep (n : Nat) : (madeCells #[Value.int .i64 0, .int .i64 0, .int .i64 0, .int .i64 0] (n * 4)).toList = FL (List.replicate n rz) := by
  apply List.ext_getElem?
  intro i
  by_cases hi : i < n * 4
  · have h1 : (madeCells #[Value.int .i64 0, .int .i64 0, .int .i64 0, .int .i64 0] (n * 4)).toList[i]? = some (.int .i64 0) := by
      unfold madeCells
      have : i % 4 = 0 ∨ i % 4 = 1 ∨ i % 4 = 2 ∨ i % 4 = 3 := by omega
      simp [hi]
      rcases this with h | h | h | h <;> simp [h]
    rw [h1]
    obtain ⟨a, b, c, d⟩ := FL_get (List.replicate n rz) (i / 4) (by simp; omega)
    have e : rg (List.replicate n rz) (i / 4) = rz := by unfold rg; simp only [List.getD_eq_getElem?_getD, List.getElem?_replicate]; split <;> rfl
    rw [e] at a b c d
    have : i = i / 4 * 4 ∨ i = i / 4 * 4 + 1 ∨ i = i / 4 * 4 + 2 ∨ i = i / 4 * 4 + 3 := by omega
    rcases this with h | h | h | h <;> rw [h]
    · exact a.symm
    · exact b.symm
    · exact c.symm
    · exact d.symm
  · rw [List.getElem?_eq_none (by rw [Array.length_toList, size_madeCells]; omega), List.getElem?_eq_none (by rw [FL_len]; simp; omega)]
theorem rg_set (xs : List Rc) (i j : Nat) (r : Rc) (h : i < xs.length) : rg (xs.set i r) j = if j = i then r else rg xs j := by
  unfold rg
  by_cases e : j = i
  · subst e; simp [h]
  · have e' : ¬ i = j := fun h => e h.symm
    simp [e, e']
theorem rg_ext {xs ys : List Rc} (h : xs.length = ys.length) (hg : ∀ i, i < xs.length → rg xs i = rg ys i) : xs = ys := by
  apply List.ext_getElem h
  intro i h1 h2
  have := hg i h1
  unfold rg at this
  simpa [h1, h2] using this
theorem rg_take (xs : List Rc) (k i : Nat) (h : i < k) : rg (xs.take k) i = rg xs i := by
  unfold rg
  simp [List.getD_eq_getElem?_getD, h]
theorem rc_snoc (xs : List Rc) (k : Nat) (h : k < xs.length) : xs.take (k + 1) = xs.take k ++ [rg xs k] := by
  rw [List.take_succ_eq_append_getElem h]; simp [rg, h]
structure Rat (W : World) (b o : Nat) (r : Rc) : Prop where
  h0 : W.cell? ⟨b, o, none⟩ = some (.int .i64 r.k)
  h1 : W.cell? ⟨b, o + 1, none⟩ = some (.int .i64 r.b)
  h2 : W.cell? ⟨b, o + 2, none⟩ = some (.int .i64 r.n)
  h3 : W.cell? ⟨b, o + 3, none⟩ = some (.int .i64 r.f)
theorem Rat.below {W W' : World} {b o : Nat} {x : Rc} (h : Rat W b o x) (l : b < W.heap.size) (hb : Below W.heap.size W W') : Rat W' b o x :=
  ⟨(hb.cell (p := ⟨b, _, none⟩) l).trans h.h0, (hb.cell (p := ⟨b, _, none⟩) l).trans h.h1, (hb.cell (p := ⟨b, _, none⟩) l).trans h.h2, (hb.cell (p := ⟨b, _, none⟩) l).trans h.h3⟩
/-- What a slice of records reads as. -/
def Rs (w : World) (a : Option Addr) (n cap : Nat) (xs : List Rc) : Prop :=
  (a = none → cap = 0) ∧ xs.length = n ∧ n ≤ cap ∧ (n = 0 ∨ ∃ b o, a = some ⟨b, o, none⟩ ∧ b < w.heap.size ∧ ∀ i, i < n → Rat w b (o + i * 4) (rg xs i))
theorem Rs.below {w w' : World} {a : Option Addr} {n cap : Nat} {xs : List Rc} (h : Rs w a n cap xs) (hb : Below w.heap.size w w') : Rs w' a n cap xs := by
  obtain ⟨h0, h1, h2, h4⟩ := h
  refine ⟨h0, h1, h2, ?_⟩
  rcases h4 with h4 | ⟨b, o, ha, hlt, hc⟩
  · exact .inl h4
  · exact .inr ⟨b, o, ha, Nat.lt_of_lt_of_le hlt hb.size, fun j hj => (hc j hj).below hlt hb⟩
theorem Rs.opened {w : World} {a : Option Addr} {n cap : Nat} {xs : List Rc} (h : Rs w a n cap xs) (hn : 0 < n) : ∃ b o, a = some ⟨b, o, none⟩ ∧ b < w.heap.size ∧ ∀ i, i < n → Rat w b (o + i * 4) (rg xs i) := by
  rcases h.2.2.2 with h | h
  · omega
  · exact h
section
variable {w : World} {lo t n cap g : Nat} {xs : List Rc}
theorem rq_len {v : Value} (h : w.ownsRow lo t 4 v n (FL xs)) : xs.length = n := by have := h.1; rw [FL_len] at this; omega
theorem rq_at (h : w.ownsRow lo t 4 (.slice (some ⟨g, 0, none⟩) n cap) n (FL xs)) (i : Nat) (hi : i < n) : Rat w g (i * 4) (rg xs i) := by
  have hl := rq_len h
  obtain ⟨a, b, c, d⟩ := FL_get xs i (by omega)
  exact ⟨(h.cellAt _ (by omega)).trans a, (h.cellAt _ (by omega)).trans b, (h.cellAt _ (by omega)).trans c, (h.cellAt _ (by omega)).trans d⟩
theorem rq_set (h : w.ownsRow lo t 4 (.slice (some ⟨g, 0, none⟩) n cap) n (FL xs)) (i : Nat) (hi : i < n) (r : Rc) :
    ((((w.setCell ⟨g, i * 4, none⟩ (.int .i64 r.k)).setCell ⟨g, i * 4 + 1, none⟩ (.int .i64 r.b)).setCell ⟨g, i * 4 + 2, none⟩ (.int .i64 r.n)).setCell ⟨g, i * 4 + 3, none⟩ (.int .i64 r.f)).ownsRow lo t 4 (.slice (some ⟨g, 0, none⟩) n cap) n (FL (xs.set i r)) := by
  rw [FL_set xs i r (by rw [rq_len h]; exact hi)]
  exact ((((h.stored (i * 4) (.int .i64 r.k)).1.stored (i * 4 + 1) (.int .i64 r.b)).1.stored (i * 4 + 2) (.int .i64 r.n)).1.stored (i * 4 + 3) (.int .i64 r.f)).1
theorem Rs.own {v : Value} (h : w.ownsRow lo t 4 v n (FL xs)) : ∃ a cap, v = .slice a n cap ∧ cap ≤ maxLen ∧ Rs w a n cap xs := by
  have hl := rq_len h
  rcases h.2 with ⟨rfl, rfl⟩ | ⟨g, cap, cur, rfl, hg, hgg, h1, h2, h3, h4⟩
  · exact ⟨none, 0, rfl, by unfold maxLen; omega, fun _ => rfl, hl, Nat.le_refl _, .inl rfl⟩
  · exact ⟨_, cap, rfl, h2, (fun h => by cases h), hl, h1, .inr ⟨g, 0, rfl, (Array.getElem?_eq_some_iff.1 hgg).1, fun i hi => by simpa using rq_at h i hi⟩⟩
theorem rs_of_own {a : Option Addr} {c : Nat} (h : w.ownsRow lo t 4 (.slice a n c) n (FL xs)) : Rs w a n c xs := by
  obtain ⟨a', c', e, _, hb⟩ := Rs.own h
  simp only [Value.slice.injEq, true_and] at e
  obtain ⟨rfl, rfl⟩ := e
  exact hb
end
/-- A row of records within [lo, hi). -/
structure Rq (W : World) (lo hi e : Nat) (v : Value) (n : Nat) (l : List Rc) : Prop where
  o : W.ownsRow lo e 4 v n (FL l)
  i : In v lo hi
  z : hi ≤ W.heap.size
section
variable {W W' : World} {lo hi e n : Nat} {v : Value} {l : List Rc}
theorem Rq.new (o : W.ownsRow lo e 4 v n (FL l)) : Rq W lo W.heap.size e v n l := ⟨o, In.of o, Nat.le_refl _⟩
theorem Rq.chg (h : Rq W lo hi e v n l) {a b : Nat} (hc : Chg W W' a b) (hl : hi ≤ a ∨ b ≤ lo ∨ b ≤ a) : Rq W' lo hi e v n l := by
  by_cases hab : b ≤ a
  · have hc' : Chg W W' hi hi := ⟨hc.os, hc.tape, hc.output, hc.size, fun i hi _ => hc.block i hi (by omega)⟩
    exact ⟨own_chg h.o h.i hc' (by omega), h.i, Nat.le_trans h.z hc.size⟩
  · exact ⟨own_chg h.o h.i hc (by omega), h.i, Nat.le_trans h.z hc.size⟩
theorem Rq.marked (h : Rq W lo hi e v n l) {l' : List Rc} (hg : W.grownBy W' v.ownBlock) (o : W'.ownsRow lo e 4 v n (FL l')) : Rq W' lo hi e v n l' := ⟨o, h.i, Nat.le_trans h.z hg.size⟩
theorem Rq.gr (h : Rq W lo hi e v n l) (hg : W.grownBy W' v.ownBlock) : Chg W W' lo hi := .of_grown hg h.i
end
end Go.Proofs.YtofflhhlacdgfaaDoor
namespace Go.Proofs.YtofflhhlacdgfaaDoor
open Go.RowKit
set_option maxRecDepth 100000
set_option maxHeartbeats 1000000

theorem eqNeedC (k b n f : Int) (w : World) : Calls Tryd.prog 121 #[rcV k b n f, rcV k b n f] w fun e w' => e = .returned (.bool true) ∧ Below w.heap.size w w' := by
  have B : Hid (∀ o1 o2 : Obj, Below w.heap.size w ((w.alloc o1).alloc o2)) := fun o1 o2 => ((Below.refl _ _).alloc (Nat.le_refl _) _).alloc (by simp) _
  have h1 : (k != k) = false := by simp
  have h2 : (b != b) = false := by simp
  have h3 : (n != n) = false := by simp
  have h4 : (f != f) = false := by simp
  go_enter Tryd.func121, Tryd.ntmps121
  go_wp2
  go_ret
  exact ⟨rfl, B.out _ _⟩
end Go.Proofs.YtofflhhlacdgfaaDoor
namespace Go.Proofs.YtofflhhlacdgfaaDoor
open Go.RowKit
set_option maxRecDepth 100000
set_option linter.unusedVariables false

theorem bel_row4 {w W : World} {B g : Nat} (h : Below B w W) (hg : B ≤ g) (m : Nat) (a b c d : Value) : Below B w ((((W.setCell ⟨g, m, none⟩ a).setCell ⟨g, m + 1, none⟩ b).setCell ⟨g, m + 2, none⟩ c).setCell ⟨g, m + 3, none⟩ d) :=
  (((h.setCell hg _).setCell hg _).setCell hg _).setCell hg _
def mkR (k0 : Int) (n : Nat) : List Rc := (List.range n).map fun (i : Nat) => ⟨k0 + 4 * (i : Int), k0 + 4 * (i : Int) + 1, k0 + 4 * (i : Int) + 2, k0 + 4 * (i : Int) + 3⟩
theorem mkR_len (k0 : Int) (n : Nat) : (mkR k0 n).length = n := by simp [mkR]
theorem mkR_get (k0 : Int) (n i : Nat) (h : i < n) : rg (mkR k0 n) i = ⟨k0 + 4 * (i : Int), k0 + 4 * (i : Int) + 1, k0 + 4 * (i : Int) + 2, k0 + 4 * (i : Int) + 3⟩ := by simp [rg, mkR, h]
theorem grown_row4 {W : World} {g : Nat} (m : Nat) (a b c d : Value) : W.grownBy ((((W.setCell ⟨g, m, none⟩ a).setCell ⟨g, m + 1, none⟩ b).setCell ⟨g, m + 2, none⟩ c).setCell ⟨g, m + 3, none⟩ d) (some g) :=
  ⟨rfl, rfl, rfl, by simp, fun i hi hne => by
    have e : ∀ (X : World) (q : Nat) (v : Value), (X.setCell ⟨g, q, none⟩ v).heap[i]? = X.heap[i]? := fun X q v => heap_setCell_other X ⟨g, q, none⟩ i v (fun h => hne (by rw [h]))
    rw [e, e, e, e]⟩
theorem grown_tr {a b c : World} {r : Option Nat} (h : a.grownBy b r) (h' : b.grownBy c r) : a.grownBy c r :=
  ⟨h'.os.trans h.os, h'.tape.trans h.tape, h'.output.trans h.output, Nat.le_trans h.size h'.size, fun i hi hne => (h'.block i (Nat.lt_of_lt_of_le hi h.size) hne).trans (h.block i hi hne)⟩
end Go.Proofs.YtofflhhlacdgfaaDoor
namespace Go.Proofs.YtofflhhlacdgfaaDoor
open Go.RowKit
set_option maxRecDepth 100000
set_option maxHeartbeats 4000000
set_option linter.unusedVariables false

theorem eqNeedSC (a a' : Option Addr) (n cap cap' : Nat) (xs : List Rc) (w : World) (h : Rs w a n cap xs) (h' : Rs w a' n cap' xs) (hn : n ≤ 1048576) :
    Calls Tryd.prog 91 #[.slice a n cap, .slice a' n cap'] w fun e w' => e = .returned (.bool true) ∧ Below w.heap.size w w' := by
  have hne : ((n : Int) != (n : Int)) = false := by simp
  go_enter Tryd.func91, Tryd.ntmps91
  go_wp2
  go_loopw [5] (fun i wr => ∃ k : Nat, k ≤ n ∧ i = .int .i64 k ∧ Below w.heap.size w wr) (fun i _ => n - (intOf i).toNat)
  case atStart => exact ⟨0, Nat.zero_le _, rfl, Below.refl _ _⟩
  case round =>
    obtain ⟨k, hk, rfl, hb⟩ := hrel
    by_cases hlt : k < n
    · have hltI : (k : Int) < (n : Int) := by omega
      obtain ⟨b, o, rfl, hbs, hcell⟩ := h.opened (by omega)
      obtain ⟨b', o', rfl, hbs', hcell'⟩ := h'.opened (by omega)
      obtain ⟨x, hx⟩ : ∃ x, x = rg xs k := ⟨_, rfl⟩
      have hr := hcell k hlt
      have hr' := hcell' k hlt
      rw [← hx] at hr hr'
      clear hx hcell hcell'
      obtain ⟨xk, xb, xn, xf⟩ := x
      obtain ⟨c0, c1, c2, c3⟩ := hr.below hbs (hb.mono (Nat.le_refl _))
      obtain ⟨d0, d1, d2, d3⟩ := hr'.below hbs' (hb.mono (Nat.le_refl _))
      dsimp only at c0 c1 c2 c3 d0 d1 d2 d3
      have l1 : b < wr.heap.size := Nat.lt_of_lt_of_le hbs hb.size
      have l2 : b' < wr.heap.size := Nat.lt_of_lt_of_le hbs' hb.size
      go_wp2
      try simp only [Act.put]
      refine tameG [kc 17 (.slice (some ⟨b, o, none⟩) n cap), kc 18 (.int .i64 (k : Int)), kc 19 (.pointer (some ⟨b, o + k * 4, none⟩)), kc 20 (.agg #[.int .i64 xk, .int .i64 xb, .int .i64 xn, .int .i64 xf]), kc 21 (.slice (some ⟨b', o', none⟩) n cap'), kc 22 (.int .i64 (k : Int)), kc 23 (.pointer (some ⟨b', o' + k * 4, none⟩)), kc 24 (.agg #[.int .i64 xk, .int .i64 xb, .int .i64 xn, .int .i64 xf]), kc 25 (.bool true), kc 26 (.bool false)] 10 (by kernel_rfl) (by kernel_rfl) (by kernel_rfl) (by repeat' first | exact trivial | apply kc_keeps | constructor) 0 (by kernel_rfl) (fun vv ll hh yW bW => ?_) (fun vv ll hh yW bW F ivh aph => ?_)
      · have x0 := (bW.cell (p := ⟨b, _, none⟩) l1).trans c0
        have x1 := (bW.cell (p := ⟨b, _, none⟩) l1).trans c1
        have x2 := (bW.cell (p := ⟨b, _, none⟩) l1).trans c2
        have x3 := (bW.cell (p := ⟨b, _, none⟩) l1).trans c3
        have y0 := (bW.cell (p := ⟨b', _, none⟩) l2).trans d0
        have y1 := (bW.cell (p := ⟨b', _, none⟩) l2).trans d1
        have y2 := (bW.cell (p := ⟨b', _, none⟩) l2).trans d2
        have y3 := (bW.cell (p := ⟨b', _, none⟩) l2).trans d3
        refine ⟨og (tp (by kernel_rfl)) (by kernel_rfl), og (tp (by kernel_rfl)) (by kernel_rfl), og (tp ?_) (by kernel_rfl), og (tp ?_) (by kernel_rfl), og (tp (by kernel_rfl)) (by kernel_rfl), og (tp (by kernel_rfl)) (by kernel_rfl), og (tp ?_) (by kernel_rfl), og (tp ?_) (by kernel_rfl), og (tc (eqNeedC xk xb xn xf _) (by kernel_rfl)) (by kernel_rfl), og (tp (by kernel_rfl)) (by kernel_rfl), trivial⟩
        all_goals
          simp only [fillK, putT, List.setIfInBounds_toArray, List.set_cons_zero, List.set_cons_succ]
          unfold execOp
          go_simp
          try rfl
      clear F ivh aph
      obtain ⟨y, hy⟩ : ∃ z, z = yW := ⟨_, rfl⟩
      rw [← hy] at bW ⊢
      clear hy
      refine wpAny_done (by kernel_rfl) ?_ _
      simp only [fillK, putT, List.setIfInBounds_toArray, List.set_cons_zero, List.set_cons_succ]
      replace hb := hb.trans (bW.mono hb.size)
      clear bW c0 c1 c2 c3 d0 d1 d2 d3
      go_wp2
      go_roundw
      case rel => exact ⟨k + 1, by omega, by go_num, hb⟩
      case measure => simp [intOf]; omega
    · have hkn : k = n := by omega
      subst hkn
      go_wp2
      go_ret
      exact ⟨rfl, hb⟩
theorem markNeedSC (B n : Nat) (v : Value) (k0 : Int) (xs : List Rc) (w : World) (hown : w.ownsRow B 41 4 v n (FL xs)) (hn : n ≤ 1048576) (h0 : 0 ≤ k0) (h1 : k0 ≤ 2000000000000000) :
    Calls Tryd.prog 93 #[v, .int .i64 k0] w fun e w' => e = .returned (.int .i64 (k0 + 4 * (n : Int))) ∧ w'.ownsRow B 41 4 v n (FL (mkR k0 n)) ∧ w.grownBy w' v.ownBlock := by
  by_cases hn0 : n = 0
  · subst hn0
    have hx : xs = [] := List.eq_nil_of_length_eq_zero (rq_len hown)
    subst hx
    obtain ⟨a, c, rfl, _, _⟩ := Rs.own hown
    go_enter Tryd.func93, Tryd.ntmps93
    go_wp2
    go_loopw [5, 1] (fun i m wr => i = .int .i64 0 ∧ m = .int .i64 k0 ∧ wr = w) (fun i _ _ => 0)
    case atStart => exact ⟨rfl, rfl, rfl⟩
    case round =>
      obtain ⟨rfl, rfl, rfl⟩ := hrel
      go_wp2
      go_ret
      exact ⟨by simp, hown, World.grownBy.refl _ _⟩
  obtain ⟨g, cap, rfl⟩ : ∃ g cap, v = .slice (some ⟨g, 0, none⟩) n cap := by
    rcases hown.2 with ⟨_, h⟩ | ⟨g, cap, cur, h, _⟩
    · exact absurd h hn0
    · exact ⟨g, cap, h⟩
  go_enter Tryd.func93, Tryd.ntmps93
  go_wp2
  go_loopw [5, 1] (fun i m wr => ∃ k : Nat, k ≤ n ∧ i = .int .i64 k ∧ m = .int .i64 (k0 + 4 * (k : Int)) ∧ (∃ l, wr.ownsRow B 41 4 (.slice (some ⟨g, 0, none⟩) n cap) n (FL l) ∧ ∀ q, q < k → rg l q = rg (mkR k0 n) q) ∧ w.grownBy wr (some g)) (fun i _ _ => n - (intOf i).toNat)
  case atStart => exact ⟨0, Nat.zero_le _, rfl, by simp, ⟨_, hown, by omega⟩, World.grownBy.refl _ _⟩
  case round =>
    obtain ⟨k, hk, rfl, rfl, ⟨l, hown2, hall⟩, hg⟩ := hrel
    have HL : Hid _ := hall
    clear hall hown
    by_cases hlt : k < n
    · obtain ⟨d0, d1, d2, d3⟩ := rq_at hown2 k hlt
      have f0 := fun j => hown2.frozenAt j
      have lS := (hown2.lt g rfl).2
      obtain ⟨m, hm⟩ : ∃ m : Int, m = k0 + 4 * (k : Int) := ⟨_, rfl⟩
      rw [← hm]
      have mb : 0 ≤ m ∧ m ≤ 200000001000000010000000 := by omega
      have w1 : IntKind.i64.wrap (m + 1) = m + 1 := wr64 (by omega) (by omega)
      have w2 : IntKind.i64.wrap (m + 1 + 1) = m + 2 := by rw [show m + 1 + 1 = m + 2 by omega]; exact wr64 (by omega) (by omega)
      have w3 : IntKind.i64.wrap (m + 2 + 1) = m + 3 := by rw [show m + 2 + 1 = m + 3 by omega]; exact wr64 (by omega) (by omega)
      have w4 : IntKind.i64.wrap (m + 3 + 1) = m + 4 := by rw [show m + 3 + 1 = m + 4 by omega]; exact wr64 (by omega) (by omega)
      have HS : Hid _ := rq_set hown2 k hlt ⟨m, m + 1, m + 2, m + 3⟩
      have HG : Hid _ := grown_tr hg (grown_row4 (W := wr) (g := g) (k * 4) (.int .i64 m) (.int .i64 (m + 1)) (.int .i64 (m + 2)) (.int .i64 (m + 3)))
      have HLL : Hid (l.length = n) := rq_len hown2
      have HM : Hid _ := hm
      clear hm hown2 hg
      go_wp2
      go_roundw
      case rel =>
        refine ⟨k + 1, by omega, by go_num, by rw [HM.out]; congr 1; omega, ⟨_, HS.out, fun q hq => ?_⟩, HG.out⟩
        rw [rg_set _ _ _ _ (by rw [HLL.out]; exact hlt)]
        split
        · next e => subst e; rw [mkR_get k0 n q hlt, HM.out]
        · exact HL.out q (by omega)
      case measure => simp [intOf]; omega
    · have hkn : k = n := by omega
      subst hkn
      go_wp2
      go_ret
      have : l = mkR k0 k := rg_ext (by rw [rq_len hown2, mkR_len]) (fun q hq => HL.out q (by rw [← rq_len hown2]; exact hq))
      subst this
      exact ⟨rfl, hown2, hg⟩
theorem heldNeedSC (a : Option Addr) (n cap : Nat) (k0 : Int) (w : World) (h : Rs w a n cap (mkR k0 n)) (hn : n ≤ 1048576) (h0 : 0 ≤ k0) (h1 : k0 ≤ 10000000) :
    Calls Tryd.prog 95 #[.slice a n cap, .int .i64 k0] w fun e w' => e = .returned (.int .i64 (k0 + 4 * (n : Int))) ∧ w' = w := by
  go_enter Tryd.func95, Tryd.ntmps95
  go_wp2
  go_loop [5, 1] (fun i m => ∃ k : Nat, k ≤ n ∧ i = .int .i64 k ∧ m = .int .i64 (k0 + 4 * (k : Int))) (fun i _ => n - (intOf i).toNat)
  case atStart => exact ⟨0, Nat.zero_le _, rfl, by simp⟩
  case round =>
    obtain ⟨k, hk, rfl, rfl⟩ := hrel
    by_cases hlt : k < n
    · obtain ⟨b, o, rfl, hbs, hcell⟩ := h.opened (by omega)
      have hr := hcell k hlt
      rw [mkR_get k0 n k hlt] at hr
      obtain ⟨d0, d1, d2, d3⟩ := hr
      dsimp only at d0 d1 d2 d3
      obtain ⟨m, hm⟩ : ∃ m : Int, m = k0 + 4 * (k : Int) := ⟨_, rfl⟩
      rw [← hm] at d0 d1 d2 d3 ⊢
      have mb : 0 ≤ m ∧ m ≤ 20000000 := by omega
      have w1 : IntKind.i64.wrap (m + 1) = m + 1 := wr64 (by omega) (by omega)
      have w2 : IntKind.i64.wrap (m + 1 + 1) = m + 2 := by rw [show m + 1 + 1 = m + 2 by omega]; exact wr64 (by omega) (by omega)
      have w3 : IntKind.i64.wrap (m + 2 + 1) = m + 3 := by rw [show m + 2 + 1 = m + 3 by omega]; exact wr64 (by omega) (by omega)
      have w4 : IntKind.i64.wrap (m + 3 + 1) = m + 4 := by rw [show m + 3 + 1 = m + 4 by omega]; exact wr64 (by omega) (by omega)
      have e0 : (m != m) = false := by simp
      have e1 : (m + 1 != m + 1) = false := by simp
      have e2 : (m + 2 != m + 2) = false := by simp
      have e3 : (m + 3 != m + 3) = false := by simp
      have HM : Hid _ := hm
      clear hm hcell
      go_wp2
      go_round
      case rel => exact ⟨k + 1, by omega, by go_num, by rw [HM.out]; congr 1; omega⟩
      case measure => simp [intOf]; omega
    · have hkn : k = n := by omega
      subst hkn
      go_wp2
      go_ret
      exact ⟨rfl, rfl⟩
end Go.Proofs.YtofflhhlacdgfaaDoor
namespace Go.Proofs.YtofflhhlacdgfaaDoor
open Go.RowKit
set_option maxRecDepth 100000
set_option maxHeartbeats 4000000
set_option linter.unusedVariables false

abbrev nrc (x : NeedM) : Rc := ⟨x.o, x.f, x.t, x.k⟩
theorem rg_nrc (ns : List NeedM) (i : Nat) (h : i < ns.length) : rg (ns.map nrc) i = nrc (ns.getD i nz) := by simp [rg, h]
theorem Ns.rs {W : World} {a : Option Addr} {n c : Nat} {ns : List NeedM} (h : Ns W a n c ns) : Rs W a n c (ns.map nrc) := by
  obtain ⟨h0, h1, h2, h3⟩ := h
  refine ⟨h0, by simpa using h1, h2, ?_⟩
  rcases h3 with h3 | ⟨b, o, e, hb, hc⟩
  · exact .inl h3
  · refine .inr ⟨b, o, e, hb, fun i hi => ?_⟩
    rw [rg_nrc _ _ (by omega)]
    exact ⟨(hc i hi).o, (hc i hi).f, (hc i hi).t, (hc i hi).k⟩
theorem Rs.ns {W : World} {a : Option Addr} {n c : Nat} {ns : List NeedM} (h : Rs W a n c (ns.map nrc)) : Ns W a n c ns := by
  obtain ⟨h0, h1, h2, h3⟩ := h
  have h1' : ns.length = n := by simpa using h1
  refine ⟨h0, h1', h2, ?_⟩
  rcases h3 with h3 | ⟨b, o, e, hb, hc⟩
  · exact .inl h3
  · refine .inr ⟨b, o, e, hb, fun i hi => ?_⟩
    have := hc i hi
    rw [rg_nrc _ _ (by omega)] at this
    exact ⟨this.h0, this.h1, this.h2, this.h3⟩
abbrev bunV (d n f : Int) (pa : Option Addr) (pn pc : Nat) (na : Option Addr) (nn nc : Nat) : Value := .agg #[.int .i64 d, .int .i64 n, .int .i64 f, .slice pa pn pc, .slice na nn nc]
theorem eqBundleC (d n f : Int) (pa : Option Addr) (pn pc : Nat) (na : Option Addr) (nn nc : Nat) (pa' : Option Addr) (pc' : Nat) (na' : Option Addr) (nc' : Nat) (ps : List PartM) (ns : List NeedM) (w : World)
    (hP : Ps w pa pn pc ps) (hN : Ns w na nn nc ns) (hP' : Ps w pa' pn pc' ps) (hN' : Ns w na' nn nc' ns) (hp : PqSm pn ps) (hn : nn ≤ 1048576) :
    Calls Tryd.prog 34 #[bunV d n f pa pn pc na nn nc, bunV d n f pa' pn pc' na' nn nc'] w fun e w' => e = .returned (.bool true) ∧ Below w.heap.size w w' := by
  have h0 : (d != d) = false := by simp
  have h1 : (n != n) = false := by simp
  have h2 : (f != f) = false := by simp
  obtain ⟨V, hV⟩ : ∃ V, V = (w.alloc (.cells #[.int .i64 d, .int .i64 n, .int .i64 f, .slice pa pn pc, .slice na nn nc] 26)).alloc (.cells #[.int .i64 d, .int .i64 n, .int .i64 f, .slice pa' pn pc', .slice na' nn nc'] 26) := ⟨_, rfl⟩
  have B : Below w.heap.size w V := by rw [hV]; exact ((Below.refl _ _).alloc (Nat.le_refl _) _).alloc (by simp) _
  have A0 : Arr V w.heap.size 26 [.int .i64 d, .int .i64 n, .int .i64 f, .slice pa pn pc, .slice na nn nc] := by rw [hV]; exact (Arr.new _ _ _).alloc _
  have A1 : Arr V (w.heap.size + 1) 26 [.int .i64 d, .int .i64 n, .int .i64 f, .slice pa' pn pc', .slice na' nn nc'] := by
    rw [hV]
    have := Arr.new (w.alloc (.cells #[.int .i64 d, .int .i64 n, .int .i64 f, .slice pa pn pc, .slice na nn nc] 26)) [.int .i64 d, .int .i64 n, .int .i64 f, .slice pa' pn pc', .slice na' nn nc'] 26
    simpa using this
  have HH : Hid (Ps w pa pn pc ps ∧ Ns w na nn nc ns ∧ Ps w pa' pn pc' ps ∧ Ns w na' nn nc' ns ∧ PqSm pn ps) := ⟨hP, hN, hP', hN', hp⟩
  clear hP hN hP' hN' hp
  go_enter Tryd.func34, Tryd.ntmps34
  go_wp2_with fail
  rw [← hV]
  clear hV
  refine (eqPartSC pa pa' pn pc pc' ps _ (HH.out.1.below B) (HH.out.2.2.1.below B) HH.out.2.2.2.2).mono ?_
  rintro e w1 ⟨rfl, hb⟩
  replace A0 := A0.kept hb
  replace A1 := A1.kept hb
  replace B := B.trans (hb.mono B.size)
  clear hb
  have c0 := A0.cell 4
  have c1 := A1.cell 4
  simp at c0 c1
  go_wp2_with fail
  refine (eqNeedSC na na' nn nc nc' _ _ (HH.out.2.1.below B).rs (HH.out.2.2.2.1.below B).rs hn).mono ?_
  rintro e w2 ⟨rfl, hb⟩
  replace B := B.trans (hb.mono B.size)
  clear hb c0 c1
  go_wp2
  go_ret
  exact ⟨rfl, B⟩
end Go.Proofs.YtofflhhlacdgfaaDoor

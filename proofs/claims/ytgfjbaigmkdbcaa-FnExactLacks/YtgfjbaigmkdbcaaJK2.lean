/-
  What is proved here: how bundles lie in memory (parts and needs are rows of four cells, a part's sum a row of bytes); the contract of the specification's l8find; the contract of the specification's l8ahead; what a bundle is as a plain fact.
-/
import Derived.Test.YtgfjbaigmkdbcaaJK1
namespace Go.Proofs.Ytgfjbaigmkdbcaa
open Go.RowKit
set_option maxRecDepth 100000
set_option maxHeartbeats 1000000

structure PartM where
  k : Int
  v : Int
  s : Int
  h : List Int
structure NeedM where
  o : Int
  f : Int
  t : Int
  k : Int
structure BunM where
  d : Int
  n : Int
  f : Int
  ps : List PartM
  ns : List NeedM
def pz : PartM := ⟨0, 0, 0, []⟩
def nz : NeedM := ⟨0, 0, 0, 0⟩
/-- The cells of the part at the place of a row. -/
structure PartAt (W : World) (b o : Nat) (p : PartM) (ha : Option Addr) (hc : Nat) : Prop where
  k : W.cell? ⟨b, o, none⟩ = some (.int .i64 p.k)
  v : W.cell? ⟨b, o + 1, none⟩ = some (.int .i64 p.v)
  s : W.cell? ⟨b, o + 2, none⟩ = some (.int .i64 p.s)
  h : W.cell? ⟨b, o + 3, none⟩ = some (.slice ha p.h.length hc)
  by_ : Bs W ha p.h.length hc p.h
structure NeedAt (W : World) (b q : Nat) (p : NeedM) : Prop where
  o : W.cell? ⟨b, q, none⟩ = some (.int .i64 p.o)
  f : W.cell? ⟨b, q + 1, none⟩ = some (.int .i64 p.f)
  t : W.cell? ⟨b, q + 2, none⟩ = some (.int .i64 p.t)
  k : W.cell? ⟨b, q + 3, none⟩ = some (.int .i64 p.k)
/-- What a slice of parts reads as. -/
def Ps (W : World) (a : Option Addr) (n c : Nat) (ps : List PartM) : Prop :=
  (a = none → c = 0) ∧ ps.length = n ∧ n ≤ c ∧ (n = 0 ∨ ∃ b o, a = some ⟨b, o, none⟩ ∧ b < W.heap.size ∧ ∀ i, i < n → ∃ ha hc, PartAt W b (o + i * 4) (ps.getD i pz) ha hc)
def Ns (W : World) (a : Option Addr) (n c : Nat) (ns : List NeedM) : Prop :=
  (a = none → c = 0) ∧ ns.length = n ∧ n ≤ c ∧ (n = 0 ∨ ∃ b o, a = some ⟨b, o, none⟩ ∧ b < W.heap.size ∧ ∀ i, i < n → NeedAt W b (o + i * 4) (ns.getD i nz))
section
variable {W W' : World} {a : Option Addr} {n c : Nat}
theorem PartAt.below {b o : Nat} {p : PartM} {ha : Option Addr} {hc : Nat} (h : PartAt W b o p ha hc) (l : b < W.heap.size) (hb : Below W.heap.size W W') : PartAt W' b o p ha hc :=
  ⟨(hb.cell (p := ⟨b, _, none⟩) l).trans h.k, (hb.cell (p := ⟨b, _, none⟩) l).trans h.v, (hb.cell (p := ⟨b, _, none⟩) l).trans h.s, (hb.cell (p := ⟨b, _, none⟩) l).trans h.h, h.by_.below hb⟩
theorem NeedAt.below {b o : Nat} {p : NeedM} (h : NeedAt W b o p) (l : b < W.heap.size) (hb : Below W.heap.size W W') : NeedAt W' b o p :=
  ⟨(hb.cell (p := ⟨b, _, none⟩) l).trans h.o, (hb.cell (p := ⟨b, _, none⟩) l).trans h.f, (hb.cell (p := ⟨b, _, none⟩) l).trans h.t, (hb.cell (p := ⟨b, _, none⟩) l).trans h.k⟩
theorem Ps.below {ps : List PartM} (h : Ps W a n c ps) (hb : Below W.heap.size W W') : Ps W' a n c ps := by
  obtain ⟨h0, h1, h2, h⟩ := h
  refine ⟨h0, h1, h2, ?_⟩
  rcases h with h | ⟨b, o, e, l, h⟩
  · exact .inl h
  · refine .inr ⟨b, o, e, Nat.lt_of_lt_of_le l hb.size, fun i hi => ?_⟩
    obtain ⟨ha, hc, k⟩ := h i hi
    exact ⟨ha, hc, k.below l hb⟩
theorem Ns.below {ns : List NeedM} (h : Ns W a n c ns) (hb : Below W.heap.size W W') : Ns W' a n c ns := by
  obtain ⟨h0, h1, h2, h⟩ := h
  refine ⟨h0, h1, h2, ?_⟩
  rcases h with h | ⟨b, o, e, l, h⟩
  · exact .inl h
  · exact .inr ⟨b, o, e, Nat.lt_of_lt_of_le l hb.size, fun i hi => (h i hi).below l hb⟩
end
/-- The place of a kind among parts. -/
def fnd (ps : List PartM) (kind : Int) : Int := match ps.findIdx? (fun p => p.k == kind) with | some i => (i : Int) | none => -1
theorem fnd_at {ps : List PartM} {kind : Int} {i : Nat} (hi : i < ps.length) (h : (ps.getD i pz).k = kind) (hn : ∀ j, j < i → (ps.getD j pz).k ≠ kind) : fnd ps kind = i := by
  have : ps.findIdx? (fun p => p.k == kind) = some i := by
    rw [List.findIdx?_eq_some_iff_getElem]
    refine ⟨hi, by simpa [List.getD, List.getElem?_eq_getElem hi] using h, fun j hj => ?_⟩
    have := hn j hj
    simpa [List.getD, List.getElem?_eq_getElem (Nat.lt_trans hj hi)] using this
  unfold fnd
  rw [this]
theorem fnd_no {ps : List PartM} {kind : Int} (hn : ∀ j, j < ps.length → (ps.getD j pz).k ≠ kind) : fnd ps kind = -1 := by
  have : ps.findIdx? (fun p => p.k == kind) = none := by
    rw [List.findIdx?_eq_none_iff]
    intro p hp
    obtain ⟨j, hj, rfl⟩ := List.mem_iff_getElem.1 hp
    have := hn j hj
    simpa [List.getD, List.getElem?_eq_getElem hj] using this
  unfold fnd
  rw [this]
theorem spec8find (d n f : Int) (pa : Option Addr) (pn pc : Nat) (ps : List PartM) (na : Option Addr) (nn nc : Nat) (kind : Int) (w : World) (hp : Ps w pa pn pc ps) (hl : pn ≤ 1000000) :
    Calls Try.prog 136 #[.agg #[.int .i64 d, .int .i64 n, .int .i64 f, .slice pa pn pc, .slice na nn nc], .int .i64 kind] w fun e w' => e = .returned (.int .i64 (fnd ps kind)) ∧ Below w.heap.size w w' := by
  obtain ⟨W, hW⟩ : ∃ W, W = w.alloc (.cells #[.int .i64 d, .int .i64 n, .int .i64 f, .slice pa pn pc, .slice na nn nc] 31) := ⟨_, rfl⟩
  have A : Arr W w.heap.size 31 [.int .i64 d, .int .i64 n, .int .i64 f, .slice pa pn pc, .slice na nn nc] := by rw [hW]; exact Arr.new _ _ _
  have B : Below w.heap.size w W := by rw [hW]; exact (Below.refl _ _).alloc (Nat.le_refl _) _
  have c3 := A.cell 3
  simp at c3
  replace hp := hp.below B
  obtain ⟨_, hps, _, hq⟩ := hp
  clear A
  obtain ⟨R, hR⟩ : ∃ R, R = fnd ps kind := ⟨_, rfl⟩
  rw [← hR]
  have HR : Hid _ := hR
  clear hR
  go_enter Try.func136, Try.ntmps136
  go_upto_region 1 with fail
  rw [← hW]
  clear hW
  go_wp2
  go_loop [5] (fun i => ∃ k : Nat, k ≤ pn ∧ i = .int .i64 k ∧ Hid (∀ j, j < k → (ps.getD j pz).k ≠ kind)) (fun i => pn - (intOf i).toNat)
  case atStart => exact ⟨0, by omega, rfl, fun j hj => by omega⟩
  case round =>
    obtain ⟨k, hk, rfl, HN⟩ := hrel
    by_cases hlt : (k : Int) < (pn : Int)
    · rcases hq with hq | ⟨b, o, rfl, hbs, hcell⟩
      · omega
      obtain ⟨ha, hc, P⟩ := hcell k (by omega)
      obtain ⟨x, hx⟩ : ∃ x, x = (ps.getD k pz).k := ⟨_, rfl⟩
      have ck : W.cell? ⟨b, o + k * 4, none⟩ = some (.int .i64 x) := by rw [hx]; exact P.k
      have HX : Hid _ := hx
      clear hcell P hx
      by_cases he : x = kind
      · subst he
        go_wp2
        go_ret
        refine ⟨?_, B⟩
        rw [HR.out, fnd_at (by omega) HX.out.symm HN.out]
        rfl
      · go_wp2
        go_round
        case rel =>
          refine ⟨k + 1, by omega, by go_num, fun j hj => ?_⟩
          by_cases hjk : j = k
          · subst hjk; rw [← HX.out]; exact he
          · exact HN.out j (by omega)
        case measure => simp [intOf]; omega
    · go_wp2
      go_ret
      refine ⟨?_, B⟩
      rw [HR.out, fnd_no (fun j hj => HN.out j (by omega))]
      rfl
end Go.Proofs.Ytgfjbaigmkdbcaa
namespace Go.Proofs.Ytgfjbaigmkdbcaa
open Go.RowKit
set_option maxRecDepth 100000
set_option maxHeartbeats 4000000

theorem spec8ahead (o f t k o' f' t' k' : Int) (w : World) : Calls Try.prog 79 #[.agg #[.int .i64 o, .int .i64 f, .int .i64 t, .int .i64 k], .agg #[.int .i64 o', .int .i64 f', .int .i64 t', .int .i64 k']] w fun e w' => e = .returned (.bool (decide (needLt o f t k o' f' t' k'))) ∧ Below w.heap.size w w' := by
  obtain ⟨R, hR, HT, HF⟩ := by_dec (needLt o f t k o' f' t' k')
  rw [hR]
  clear hR
  obtain ⟨W, hW⟩ : ∃ W, W = (w.alloc (.cells #[.int .i64 o, .int .i64 f, .int .i64 t, .int .i64 k] 115)).alloc (.cells #[.int .i64 o', .int .i64 f', .int .i64 t', .int .i64 k'] 115) := ⟨_, rfl⟩
  have B : Below w.heap.size w W := by rw [hW]; exact ((Below.refl _ _).alloc (Nat.le_refl _) _).alloc (by simp) _
  have A : Arr W w.heap.size 115 [.int .i64 o, .int .i64 f, .int .i64 t, .int .i64 k] := by rw [hW]; exact (Arr.new w [.int .i64 o, .int .i64 f, .int .i64 t, .int .i64 k] _).alloc _
  have A' : Arr W (w.heap.size + 1) 115 [.int .i64 o', .int .i64 f', .int .i64 t', .int .i64 k'] := by
    rw [hW]
    have := Arr.new (w.alloc (.cells #[.int .i64 o, .int .i64 f, .int .i64 t, .int .i64 k] 115)) [.int .i64 o', .int .i64 f', .int .i64 t', .int .i64 k'] 115
    rw [World.size_alloc] at this
    exact this
  have c0 := A.cell 0
  have c1 := A.cell 1
  have c2 := A.cell 2
  have c3 := A.cell 3
  have d0 := A'.cell 0
  have d1 := A'.cell 1
  have d2 := A'.cell 2
  have d3 := A'.cell 3
  simp at c0 c1 c2 c3 d0 d1 d2 d3
  clear A A'
  go_enter Try.func79, Try.ntmps79
  go_upto_region 1 with fail
  rw [← hW]
  clear hW
  by_cases h1 : o = o'
  case neg =>
    have h1' : (o != o') = true := by simpa using h1
    by_cases h : o < o'
    case pos => go_wp2; go_ret; exact ⟨by rw [HT.out (by omega)]; rfl, B⟩
    case neg => go_wp2; go_ret; exact ⟨by rw [HF.out (by omega)]; rfl, B⟩
  have h1' : (o != o') = false := by simpa using h1
  by_cases h2 : k = k'
  case neg =>
    have h2' : (k != k') = true := by simpa using h2
    by_cases h : k < k'
    case pos => go_wp2; go_ret; exact ⟨by rw [HT.out (by omega)]; rfl, B⟩
    case neg => go_wp2; go_ret; exact ⟨by rw [HF.out (by omega)]; rfl, B⟩
  have h2' : (k != k') = false := by simpa using h2
  by_cases h3 : f = f'
  case neg =>
    have h3' : (f != f') = true := by simpa using h3
    by_cases h : f < f'
    case pos => go_wp2; go_ret; exact ⟨by rw [HT.out (by omega)]; rfl, B⟩
    case neg => go_wp2; go_ret; exact ⟨by rw [HF.out (by omega)]; rfl, B⟩
  have h3' : (f != f') = false := by simpa using h3
  by_cases h : t < t'
  case pos => go_wp2; go_ret; exact ⟨by rw [HT.out (by omega)]; rfl, B⟩
  case neg => go_wp2; go_ret; exact ⟨by rw [HF.out (by omega)]; rfl, B⟩

abbrev pOkAt (ps : List PartM) (i : Nat) : Prop := partOk (ps.getD i pz).k (ps.getD i pz).v (ps.getD i pz).s (ps.getD i pz).h.length ∧ (0 < i → (ps.getD (i - 1) pz).k < (ps.getD i pz).k)
abbrev nOkAt (ns : List NeedM) (i : Nat) : Prop := needOk (ns.getD i nz).o (ns.getD i nz).f (ns.getD i nz).t (ns.getD i nz).k ∧ (0 < i → needLt (ns.getD (i - 1) nz).o (ns.getD (i - 1) nz).f (ns.getD (i - 1) nz).t (ns.getD (i - 1) nz).k (ns.getD i nz).o (ns.getD i nz).f (ns.getD i nz).t (ns.getD i nz).k)
/-- What a bundle is. -/
abbrev headOk (B : BunM) : Prop := (0 ≤ B.d ∧ B.d ≤ 1000) ∧ (1 ≤ B.n ∧ B.n ≤ 1000) ∧ verOk B.f ∧ (1 ≤ B.ps.length ∧ B.ps.length ≤ 4) ∧ B.ns.length ≤ 8
abbrev bunOk (B : BunM) : Prop := headOk B ∧ (∀ i, i < B.ps.length → pOkAt B.ps i) ∧ (∀ i, i < B.ns.length → nOkAt B.ns i)
def bOk (B : BunM) : Bool := decide (headOk B) && (decide (∀ i, i < B.ps.length → pOkAt B.ps i) && decide (∀ i, i < B.ns.length → nOkAt B.ns i))
theorem bOk_iff (B : BunM) : bOk B = true ↔ bunOk B := by
  unfold bOk
  rw [Bool.and_eq_true, Bool.and_eq_true, decide_eq_true_iff, decide_eq_true_iff, decide_eq_true_iff]
theorem bOk_dec (B : BunM) : ∃ R, bOk B = R ∧ Hid (bunOk B → R = true) ∧ Hid (¬ bunOk B → R = false) := ⟨_, rfl, (bOk_iff B).2, fun h => by
  cases e : bOk B with
  | false => rfl
  | true => exact absurd ((bOk_iff B).1 e) h⟩
end Go.Proofs.Ytgfjbaigmkdbcaa

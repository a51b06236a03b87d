/-
  What is proved here: a part and a need as the specification reads them, as plain data; how far the world has come behind its cursor.
-/
import Derived.Test.YtofflhhlacdgfaaDoorRs1
namespace Go.Proofs.YtofflhhlacdgfaaDoor
open Go.RowKit Ma
set_option maxRecDepth 100000
set_option linter.unusedVariables false

theorem sget_le {xs : List Int} (hy : ByL xs) {o : Option Nat} (ho : ∀ p, o = some p → p ≤ xs.length) : ∀ q, (sget xs o).2 = some q → q ≤ xs.length := fun q h => by
  cases o with
  | none => cases h
  | some p =>
    cases hr : rnum xs p with
    | none => rw [sget_no hr] at h; cases h
    | some a =>
      have e := sget_yes (v := a.1) (q := a.2) hr
      rw [e] at h
      cases h
      exact (rnum_at (v := a.1) (q := a.2) hy hr).2.1
theorem stake_le {xs : List Int} {o : Option Nat} : ∀ q, (stake xs o).2 = some q → q ≤ xs.length := fun q h => by
  cases o with
  | none => cases h
  | some p =>
    cases hr : rhash xs p with
    | none => rw [stake_no hr] at h; cases h
    | some a =>
      have e := stake_yes (v := a.1) (q := a.2) hr
      rw [e] at h
      cases h
      exact (rhash_at (v := a.1) (q := a.2) hr).2.1
theorem sget_nn {xs : List Int} (hy : ByL xs) (o : Option Nat) : 0 ≤ (sget xs o).1 := by
  cases o with
  | none => exact Int.le_refl _
  | some p =>
    cases hr : rnum xs p with
    | none => rw [sget_no hr]; exact Int.le_refl _
    | some a =>
      rw [sget_yes (v := a.1) (q := a.2) hr]
      exact (rnum_at (v := a.1) (q := a.2) hy hr).2.2.1
theorem stake_by {xs : List Int} (hy : ByL xs) (o : Option Nat) : ByL (stake xs o).1 := fun x hx => by
  cases o with
  | none => cases hx
  | some p =>
    cases hr : rhash xs p with
    | none => rw [stake_no hr] at hx; cases hx
    | some a =>
      rw [stake_yes (v := a.1) (q := a.2) hr] at hx
      have := (rhash_at (v := a.1) (q := a.2) hr).2.2.1
      simp only at hx
      rw [this] at hx
      exact hy x (List.mem_of_mem_drop (List.mem_of_mem_take hx))
/-- One step of the reading: it is some, or nothing can be read any more. -/
theorem sget_or {xs : List Int} (p : Nat) {v : Int} {o : Option Nat} (h : sget xs (some p) = (v, o)) : (∃ q, rnum xs p = some (v, q) ∧ o = some q) ∨ (rnum xs p = none ∧ o = none ∧ v = 0) := by
  cases hr : rnum xs p with
  | none => rw [sget_no hr] at h; cases h; exact .inr ⟨rfl, rfl, rfl⟩
  | some a =>
    rw [sget_yes (v := a.1) (q := a.2) hr] at h
    cases h
    exact .inl ⟨a.2, rfl, rfl⟩
theorem stake_or {xs : List Int} (p : Nat) {v : List Int} {o : Option Nat} (h : stake xs (some p) = (v, o)) : (∃ q, rhash xs p = some (v, q) ∧ o = some q) ∨ (rhash xs p = none ∧ o = none) := by
  cases hr : rhash xs p with
  | none => rw [stake_no hr] at h; cases h; exact .inr ⟨rfl, rfl⟩
  | some a =>
    rw [stake_yes (v := a.1) (q := a.2) hr] at h
    cases h
    exact .inl ⟨a.2, rfl, rfl⟩
theorem spart_or {xs : List Int} (p : Nat) {x0 x1 x2 : Int} {h : List Int} {oa ob oc od : Option Nat} (h0 : sget xs (some p) = (x0, oa)) (h1 : sget xs oa = (x1, ob)) (h2 : sget xs ob = (x2, oc)) (h3 : stake xs oc = (h, od)) :
    (∃ q, rpart xs p = some (⟨x0, x1, x2, h⟩, q) ∧ od = some q ∧ h.length = 32) ∨ (rpart xs p = none ∧ od = none) := by
  unfold rpart
  rcases sget_or p h0 with ⟨q0, r0, rfl⟩ | ⟨r0, rfl, _⟩
  case inr => right; rw [r0]; cases h1; cases h2; cases h3; exact ⟨rfl, rfl⟩
  rcases sget_or q0 h1 with ⟨q1, r1, rfl⟩ | ⟨r1, rfl, _⟩
  case inr => right; cases h2; cases h3; simp [r0, r1]
  rcases sget_or q1 h2 with ⟨q2, r2, rfl⟩ | ⟨r2, rfl, _⟩
  case inr => right; cases h3; simp [r0, r1, r2]
  rcases stake_or q2 h3 with ⟨q3, r3, rfl⟩ | ⟨r3, rfl⟩
  · left; exact ⟨q3, by simp [r0, r1, r2, r3], rfl, (rhash_at r3).2.2.2.1⟩
  · right; simp [r0, r1, r2, r3]
theorem sneed_or {xs : List Int} (p : Nat) {x0 x1 x2 x3 : Int} {oa ob oc od : Option Nat} (h0 : sget xs (some p) = (x0, oa)) (h1 : sget xs oa = (x1, ob)) (h2 : sget xs ob = (x2, oc)) (h3 : sget xs oc = (x3, od)) :
    (∃ q, rneed xs p = some (⟨x0, x2, x3, x1⟩, q) ∧ od = some q) ∨ (rneed xs p = none ∧ od = none) := by
  unfold rneed
  rcases sget_or p h0 with ⟨q0, r0, rfl⟩ | ⟨r0, rfl, _⟩
  case inr => right; rw [r0]; cases h1; cases h2; cases h3; exact ⟨rfl, rfl⟩
  rcases sget_or q0 h1 with ⟨q1, r1, rfl⟩ | ⟨r1, rfl, _⟩
  case inr => right; cases h2; cases h3; simp [r0, r1]
  rcases sget_or q1 h2 with ⟨q2, r2, rfl⟩ | ⟨r2, rfl, _⟩
  case inr => right; cases h3; simp [r0, r1, r2]
  rcases sget_or q2 h3 with ⟨q3, r3, rfl⟩ | ⟨r3, rfl, _⟩
  · left; exact ⟨q3, by simp [r0, r1, r2, r3], rfl⟩
  · right; simp [r0, r1, r2, r3]
/-- The head of a bundle, as the specification reads it. -/
theorem shead_or {xs : List Int} (hy : ByL xs) {v0 v1 v2 v3 : Int} {o1 o2 o3 o4 : Option Nat} (h0 : sget xs (some 0) = (v0, o1)) (h1 : sget xs o1 = (v1, o2)) (h2 : sget xs o2 = (v2, o3)) (h3 : sget xs o3 = (v3, o4)) :
    (∃ p3 p4, o4 = some p4 ∧ p4 ≤ xs.length ∧ rnum xs p3 = some (v3, p4) ∧ rbun xs = (rcnt 4 xs p3).bind fun k => (rparts xs k.2 k.1.toNat).bind fun P => (rcnt 8 xs P.2).bind fun m => (rneeds xs m.2 m.1.toNat).bind fun N => some (⟨v0, v1, v2, P.1, N.1⟩, N.2)) ∨ (rbun xs = none ∧ o4 = none ∧ v3 = 0) := by
  unfold rbun
  rcases sget_or 0 h0 with ⟨q0, r0, rfl⟩ | ⟨r0, rfl, _⟩
  case inr => right; rw [r0]; cases h1; cases h2; cases h3; exact ⟨rfl, rfl, rfl⟩
  rcases sget_or q0 h1 with ⟨q1, r1, rfl⟩ | ⟨r1, rfl, _⟩
  case inr => right; cases h2; cases h3; simp [r0, r1]
  rcases sget_or q1 h2 with ⟨q2, r2, rfl⟩ | ⟨r2, rfl, _⟩
  case inr => right; cases h3; simp [r0, r1, r2]
  rcases sget_or q2 h3 with ⟨q3, r3, rfl⟩ | ⟨r3, rfl, hv⟩
  · left; exact ⟨q2, q3, rfl, (rnum_at hy r3).2.1, r3, by simp [r0, r1, r2]⟩
  · right
    refine ⟨?_, rfl, hv⟩
    have : rcnt 4 xs q2 = none := by unfold rcnt; rw [r3]; rfl
    simp [r0, r1, r2, this]
structure Cg (w W : World) (R : Nat) (a : Option Addr) (n c : Nat) (o : Option Nat) : Prop where
  G : w.grownBy W (some R)
  A : Arr W R 106 (CuC a n c o)
section
variable {w W W' : World} {R : Nat} {a : Option Addr} {n c : Nat} {o o' : Option Nat} {xs : List Int}
theorem Cg.b (g : Cg w W R a n c o) (h : Bs w a n c xs) (hne : ∀ b o, a = some ⟨b, o, none⟩ → 0 < n → b ≠ R) : Bs W a n c xs := bs_gr h g.G hne
theorem Cg.num (g : Cg w W R a n c o) (hg : W.grownBy W' (some R)) (A : Arr W' R 106 (CuC a n c o')) : Cg w W' R a n c o' := ⟨grown_trans g.G hg, A⟩
theorem Cg.below (g : Cg w W R a n c o) (hb : Below W.heap.size W W') : Cg w W' R a n c o := ⟨grown_trans g.G ⟨hb.os, hb.tape, hb.output, hb.size, fun i hi _ => hb.block i hi⟩, g.A.kept hb⟩
theorem Cg.alloc (g : Cg w W R a n c o) (ob : Obj) : Cg w (W.alloc ob) R a n c o := g.below ((Below.refl _ _).alloc (Nat.le_refl _) _)
theorem Cg.set (g : Cg w W R a n c o) {X : Nat} (hX : w.heap.size ≤ X) (hR : R < w.heap.size) (j : Nat) (v : Value) : Cg w (W.setCell ⟨X, j, none⟩ v) R a n c o :=
  ⟨grown_into g.G (cur_grown2 W X v j) (fun k hk => .inl (by injection hk with hk; omega)), g.A.other ⟨X, j, none⟩ v (by show R ≠ X; omega)⟩
theorem Cg.app (g : Cg w W R a n c o) {lo t s m : Nat} {v : Value} {ys : List Value} (ow : W.ownsRow lo t s v m ys) (hlo : w.heap.size ≤ lo) (hR : R < w.heap.size) (hg : W.grownBy W' v.ownBlock) : Cg w W' R a n c o := by
  refine ⟨grown_into g.G hg (fun k hk => .inl (Nat.le_trans hlo (World.ownsRow.lt ow k hk).1)), ?_⟩
  unfold Arr
  rw [hg.block _ g.A.lt (fun e => by have := (World.ownsRow.lt ow R e.symm).1; omega)]
  exact g.A
end
end Go.Proofs.YtofflhhlacdgfaaDoor

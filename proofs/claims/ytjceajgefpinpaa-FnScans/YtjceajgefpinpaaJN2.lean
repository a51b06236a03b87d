/-
  What is proved here: contracts of what is drawn with a cursor (l1PickInt): a number of the list; nothing but the cursor turns; for every code; plain facts on a block of memory that holds just given cells (an array), and how it stays; no program is spoken of, no condition; records and states as plain data; no program is spoken of; what a record does to a state, as plain data; no program is spoken of; what stays where two blocks alone were written; no program is spoken of; how memory is kept while another part of it is written, and rows of their own; no program is spoken of; rows of records in memory, four cells each; no program is spoken of.
-/
import Derived.Test.YtjceajgefpinpaaJN1
import Derived.Laws.Rows
import Derived.Laws.ResultCell
import Derived.Deep.QuietTactic
import Derived.BigQuiet
import Derived.Deep.RegionHeld3
import Derived.BigRegion
namespace Go.Proofs.Ytjceajgefpinpaa
open Go.RowKit

/-- What each draw leaves: the cursor is one, nothing but it has turned. -/
structure Drawn (W W' : World) (p : Nat) (a : Option Addr) (n c : Nat) : Prop where
  cur : Cur W' p a n c
  gr : W.grownBy W' (some p)

theorem cur_lt {W : World} {p n c : Nat} {a : Option Addr} (h : Cur W p a n c) : p < W.heap.size := by
  obtain ⟨i, hh, _, hp⟩ := h
  exact (Array.getElem?_eq_some_iff.1 hp).1

theorem cur_keep {W W' : World} {p n c : Nat} {a : Option Addr} {row : Option Nat} (h : Cur W p a n c) (hg : W.grownBy W' row) (hr : row ≠ some p) : Cur W' p a n c := by
  have hlt := cur_lt h
  obtain ⟨i, hh, hi, hp⟩ := h
  exact ⟨i, hh, hi, (hg.block p hlt (fun e => hr e.symm)).trans hp⟩

theorem grown_alloc (w : World) (o : Obj) (r : Option Nat) : w.grownBy (w.alloc o) r := World.grownBy_alloc w o r

set_option maxHeartbeats 1000000 in
theorem curPick (p : Nat) (a : Option Addr) (n c : Nat) (xs : List Int) (g m : Nat) (L : List Int) (w : World) (hcur : Cur w p a n c) (hcode : Coded w p a n c xs)
    (hL : L.length = m) (hm : 0 < m) (hm2 : m ≤ 100) (hgp : g ≠ p) (hcells : ∀ j, j < m → w.cell? ⟨g, j, none⟩ = some (.int .i64 (L.getD j 0))) :
    Calls Try.prog 76 #[.pointer (some ⟨p, 0, none⟩), .slice (some ⟨g, 0, none⟩) m m] w fun e w' => ∃ x : Int, e = .returned (.int .i64 x) ∧ x ∈ L ∧ Cur w' p a n c ∧ w.grownBy w' (some p) := by
  go_enter Try.func76, Try.ntmps76
  go_wp2_with fail
  refine (curBelow p a n c xs _ _ hcur hcode (by omega)).mono ?_
  rintro e w1 ⟨k, rfl, hk0, hk1, _, hc1, hg1⟩
  have hk2 := hk1 (by omega)
  clear hk1
  obtain ⟨K, rfl⟩ := Int.eq_ofNat_of_zero_le hk0
  obtain ⟨x, hx⟩ : ∃ x, x = L.getD K 0 := ⟨_, rfl⟩
  have hck : w1.cell? ⟨g, K, none⟩ = some (.int .i64 x) := by rw [hx]; exact hg1.cell (hcells K (by omega)) (by simpa using hgp)
  have HM : Hid (x ∈ L) := by
    unfold Hid
    have e : L.getD K 0 = L[K]'(by omega) := by simp [show K < L.length by omega]
    rw [hx, e]; exact List.getElem_mem _
  clear hcells hx
  go_wp2
  go_ret
  exact ⟨x, rfl, HM.out, hc1, hg1⟩

theorem cells_arr (w : World) (L : List Int) (t : TypeId) : ∀ j, j < L.length → (w.alloc (.cells (L.map (Value.int .i64)).toArray t)).cell? ⟨w.heap.size, j, none⟩ = some (.int .i64 (L.getD j 0)) := by
  intro j hj
  rw [World.cell?_alloc_at _ _ _ _ rfl]
  simp [hj]

/-- While something is drawn: the cursor lies behind all that was there, which is as it was. -/
structure Dw (w W : World) (a : Option Addr) (n c : Nat) : Prop where
  fr : Below w.heap.size w W
  cur : Cur W w.heap.size a n c

theorem coded_of {w W : World} {a : Option Addr} {n c : Nat} {xs : List Int} (h : Bs w a n c xs) (hm : n ≤ 9223372036854775807) (hb : Below w.heap.size w W) : Coded W w.heap.size a n c xs := by
  refine ⟨h.below hb, hm, ?_⟩
  intro b o s ha hn
  obtain ⟨_, _, _, _, h⟩ := h
  rcases h with h | ⟨b', o', ha', hbs, _⟩
  · exact absurd h hn
  · rw [ha'] at ha
    simp only [Option.some.injEq, Addr.mk.injEq] at ha
    omega

theorem Dw.draw {w W W' : World} {a : Option Addr} {n c : Nat} (h : Dw w W a n c) (hc : Cur W' w.heap.size a n c) (hg : W.grownBy W' (some w.heap.size)) : Dw w W' a n c :=
  ⟨h.fr.grown hg h.fr.size (fun k hk => by simp at hk; omega), hc⟩

theorem Dw.alloc {w W : World} {a : Option Addr} {n c : Nat} (h : Dw w W a n c) (o : Obj) : Dw w (W.alloc o) a n c :=
  ⟨h.fr.alloc h.fr.size o, cur_keep h.cur (grown_alloc W o none) (by simp)⟩

theorem Dw.app {w W W' : World} {a : Option Addr} {n c m : Nat} {v : Value} {l : List Value} (h : Dw w W a n c) (ho : W.ownsRow (w.heap.size + 1) 5 1 v m l) (hg : W.grownBy W' v.ownBlock) : Dw w W' a n c :=
  ⟨h.fr.grown hg h.fr.size (fun k hk => by have := (ho.lt k hk).1; omega), cur_keep h.cur hg (fun e => by have := (ho.lt _ e).1; omega)⟩

theorem Dw.lt {w W : World} {a : Option Addr} {n c : Nat} (h : Dw w W a n c) : w.heap.size + 1 ≤ W.heap.size := cur_lt h.cur

theorem own_draw {W W' : World} {p m : Nat} {v : Value} {l : List Value} (h : W.ownsRow (p + 1) 5 1 v m l) (hg : W.grownBy W' (some p)) : W'.ownsRow (p + 1) 5 1 v m l :=
  h.kept hg (by
    cases hv : v.ownBlock with
    | none => exact .inl rfl
    | some k => exact .inr (fun e => by have := (h.lt k hv).1; simp at e; omega))

/-- A row of bytes of the call's own. -/
def Rw (w W : World) (v : Value) (l : List Int) : Prop := W.ownsRow (w.heap.size + 1) 5 1 v l.length (U8 l) ∧ ∀ x ∈ l, 0 ≤ x ∧ x < 256

theorem Rw.draw {w W W' : World} {v : Value} {l : List Int} (h : Rw w W v l) (hg : W.grownBy W' (some w.heap.size)) : Rw w W' v l := ⟨own_draw h.1 hg, h.2⟩
theorem Rw.alloc {w W : World} {v : Value} {l : List Int} (h : Rw w W v l) (o : Obj) : Rw w (W.alloc o) v l := ⟨h.1.alloc o, h.2⟩
theorem Rw.kept {w W W' : World} {u v : Value} {l : List Int} (h : Rw w W v l) (hg : W.grownBy W' u.ownBlock) (ha : Apart u v) : Rw w W' v l := ⟨own_kept h.1 hg ha, h.2⟩
end Go.Proofs.Ytjceajgefpinpaa
namespace Go.Proofs.Ytjceajgefpinpaa
open Go.RowKit

abbrev U32 (xs : List Int) : List Value := xs.map (Value.int .u32)

/-- Block g holds just these cells; none is frozen. -/
def Arr (w : World) (g : Nat) (t : TypeId) (cs : List Value) : Prop := w.heap[g]? = some (.cells cs.toArray t (0, 0))

section
variable {w w' : World} {g : Nat} {t : TypeId} {cs : List Value}

theorem Arr.lt (h : Arr w g t cs) : g < w.heap.size := (Array.getElem?_eq_some_iff.1 h).1
theorem Arr.cell (h : Arr w g t cs) (j : Nat) : w.cell? ⟨g, j, none⟩ = cs[j]? := by
  rw [cell_of_row w g j _ t _ h]; simp
theorem Arr.u32 {xs : List Int} (h : Arr w g t (U32 xs)) (j : Nat) (hj : j < xs.length) : w.cell? ⟨g, j, none⟩ = some (.int .u32 (xs.getD j 0)) := by
  rw [h.cell j]; simp [hj]
theorem Arr.i64 {xs : List Int} (h : Arr w g t (I64 xs)) (j : Nat) (hj : j < xs.length) : w.cell? ⟨g, j, none⟩ = some (.int .i64 (xs.getD j 0)) := by
  rw [h.cell j]; simp [hj]
theorem Arr.frozen (h : Arr w g t cs) (j : Nat) : w.frozen? ⟨g, j, none⟩ = false := frozen_of_row w g j _ t h
theorem Arr.set (h : Arr w g t cs) (j : Nat) (v : Value) : Arr (w.setCell ⟨g, j, none⟩ v) g t (cs.set j v) := by
  have := heap_setCell_same w g j _ t v h
  unfold Arr
  rw [this]; simp
theorem Arr.other (h : Arr w g t cs) (p : Addr) (v : Value) (hne : g ≠ p.block) : Arr (w.setCell p v) g t cs := by
  unfold Arr
  rw [heap_setCell_other w p g v hne]; exact h
theorem Arr.row (h : Arr w g t cs) (ds : List Value) : Arr (w.setRow g ds.toArray) g t ds := setRow_heap w g _ _ t _ h
theorem Arr.rowOther (h : Arr w g t cs) (k : Nat) (ds : Array Value) (hne : g ≠ k) : Arr (w.setRow k ds) g t cs := (setRow_other w k g ds hne).trans h
theorem Arr.below {B : Nat} (h : Arr w g t cs) (hb : Below B w w') (hB : g < B) : Arr w' g t cs := by
  unfold Arr; rw [hb.block g hB]; exact h
theorem Arr.kept (h : Arr w g t cs) (hb : Below w.heap.size w w') : Arr w' g t cs := h.below hb h.lt
theorem Arr.new (w : World) (cs : List Value) (t : TypeId) : Arr (w.alloc (.cells cs.toArray t)) w.heap.size t cs := heap_alloc_new w _
theorem Arr.alloc (h : Arr w g t cs) (o : Obj) : Arr (w.alloc o) g t cs := (heap_alloc_old w o h.lt).trans h
theorem Arr.drew (h : Arr w g t cs) : Arr w.drew g t cs := h
theorem Arr.drewN (h : Arr w g t cs) (q : Nat) : Arr (w.drewN q) g t cs := h
end

theorem Arr.set8 {w : World} {g : Nat} {t : TypeId} {a0 a1 a2 a3 a4 a5 a6 a7 : Int} (h : Arr w g t (U32 [a0, a1, a2, a3, a4, a5, a6, a7])) (l0 l1 l2 l3 l4 l5 l6 l7 : Int) :
    Arr ((((((((w.setCell ⟨g, 0, none⟩ (.int .u32 l0)).setCell ⟨g, 1, none⟩ (.int .u32 l1)).setCell ⟨g, 2, none⟩ (.int .u32 l2)).setCell ⟨g, 3, none⟩ (.int .u32 l3)).setCell ⟨g, 4, none⟩ (.int .u32 l4)).setCell ⟨g, 5, none⟩ (.int .u32 l5)).setCell ⟨g, 6, none⟩ (.int .u32 l6)).setCell ⟨g, 7, none⟩ (.int .u32 l7))
      g t (U32 [l0, l1, l2, l3, l4, l5, l6, l7]) :=
  (((((((h.set 0 (.int .u32 l0)).set 1 (.int .u32 l1)).set 2 (.int .u32 l2)).set 3 (.int .u32 l3)).set 4 (.int .u32 l4)).set 5 (.int .u32 l5)).set 6 (.int .u32 l6)).set 7 (.int .u32 l7)

theorem set8_below {w0 w : World} {B g : Nat} (h : Below B w0 w) (hg : B ≤ g) (l0 l1 l2 l3 l4 l5 l6 l7 : Value) :
    Below B w0 ((((((((w.setCell ⟨g, 0, none⟩ l0).setCell ⟨g, 1, none⟩ l1).setCell ⟨g, 2, none⟩ l2).setCell ⟨g, 3, none⟩ l3).setCell ⟨g, 4, none⟩ l4).setCell ⟨g, 5, none⟩ l5).setCell ⟨g, 6, none⟩ l6).setCell ⟨g, 7, none⟩ l7) :=
  (((((((h.setCell hg l0).setCell hg l1).setCell hg l2).setCell hg l3).setCell hg l4).setCell hg l5).setCell hg l6).setCell hg l7

theorem setRow_below {B : Nat} {w w' : World} (hb : Below B w w') (g : Nat) (cs : Array Value) (hg : B ≤ g) : Below B w (w'.setRow g cs) :=
  ⟨hb.os, hb.tape, hb.output, by simpa using hb.size, fun i hi => (setRow_other w' g i cs (by omega)).trans (hb.block i hi)⟩

theorem bel_dN {B : Nat} {w w' : World} (hb : Below B w w') (q : Nat) : Below B w (w'.drewN q) := ⟨hb.os, hb.tape, hb.output, hb.size, hb.block⟩

theorem results_row_tmp {P : Program} {fn : Func} {p u : Tmp} {ty : TypeId} {w : World} {g : Nat} {t : TypeId} {cs : List Value} {d : TypeDesc} {v : Value} {tmps : Array Value} (h : fn.results = #[.cell p ty, .tmp u])
    (hp : tmps.getD p undef = .pointer (some ⟨g, 0, none⟩)) (hv : tmps.getD u undef = v) (hg : Arr w g t cs) (hu : P.underlying ty = some d) (hd : (match d with | .struct _ | .array _ _ => true | _ => false) = true) (hi : (P.info? ty).map (·.size) = some cs.length) :
    (results fn tmps).run P w = .ok (.tuple #[.agg cs.toArray, v]) w := by
  have hl := run_loadVar_row (P := P) w g t ty cs.toArray (0, 0) d hg hu hd (by simpa using hi)
  rw [results_cell_tmp h, hp, hv]
  simp [asAddr, Result.andThen, hl]

theorem list8 {l : List Int} (h : l.length = 8) : ∃ a b c d e f g i, l = [a, b, c, d, e, f, g, i] := by
  match l, h with
  | [a, b, c, d, e, f, g, i], _ => exact ⟨a, b, c, d, e, f, g, i, rfl⟩

theorem set_fill (xs : List Int) (n k : Nat) (x : Int) (h : k < xs.length) (hn : xs.length = n) (hx : x = xs.getD k 0) :
    (U32 (xs.take k ++ List.replicate (n - k) 0)).set k (.int .u32 x) = U32 (xs.take (k + 1) ++ List.replicate (n - (k + 1)) 0) := by
  subst hx
  have e : n - k = (n - (k + 1)) + 1 := by omega
  rw [take_snoc xs k h, e, List.replicate_succ]
  have hl : (xs.take k).length = k := by simp; omega
  simp only [U32, List.map_append, List.map_cons]
  rw [List.set_append_right _ _ (by simp; omega)]
  simp [Nat.min_eq_left (show k ≤ xs.length by omega)]

end Go.Proofs.Ytjceajgefpinpaa
namespace Go.Proofs.Ytjceajgefpinpaa
open Go.RowKit
set_option maxRecDepth 100000
set_option maxHeartbeats 1000000

theorem by_dec0 (P : Prop) [Decidable P] : ∃ R : Bool, decide P = R ∧ Hid (P → R = true) ∧ Hid (¬ P → R = false) := ⟨_, rfl, decide_eq_true, decide_eq_false⟩
/-- A record that may be. -/
abbrev rcOk (k b n f : Int) : Prop := (k = 1 ∧ b = 0 ∧ (0 ≤ n ∧ n ≤ 1000) ∧ f = 0) ∨ (k = 2 ∧ (0 ≤ b ∧ b ≤ 1) ∧ (1 ≤ n ∧ n ≤ 1000) ∧ (0 ≤ f ∧ f ≤ 1000)) ∨
  (k = 3 ∧ (0 ≤ b ∧ b ≤ 1) ∧ (1 ≤ n ∧ n ≤ 1000) ∧ f = 0) ∨ (k = 5 ∧ b = 0 ∧ n = 0 ∧ (0 ≤ f ∧ f ≤ 1000)) ∨ ((k = 4 ∨ k = 6) ∧ b = 0 ∧ n = 0 ∧ f = 0)
/-- A state that may be. -/
abbrev btOk (b n f : Int) (t : Bool) (i o : Int) : Prop := (0 ≤ b ∧ b ≤ 1) ∧ (1 ≤ n ∧ n ≤ 1000) ∧ (0 ≤ f ∧ f ≤ 1000) ∧ (if t = true then (0 ≤ i ∧ i ≤ 3) ∧ (1 ≤ o ∧ o ≤ 1000) else i = 0 ∧ o = 0)
abbrev rcV (k b n f : Int) : Value := .agg #[.int .i64 k, .int .i64 b, .int .i64 n, .int .i64 f]
abbrev btV (b n f : Int) (t : Bool) (i o : Int) : Value := .agg #[.int .i64 b, .int .i64 n, .int .i64 f, .bool t, .int .i64 i, .int .i64 o]

theorem heap_mid (w : World) (a b c : Obj) : (((w.alloc a).alloc b).alloc c).heap[w.heap.size + 1]? = some b := by
  rw [heap_alloc_old _ _ (by simp)]
  have := heap_alloc_new (w.alloc a) b
  simpa using this
end Go.Proofs.Ytjceajgefpinpaa
namespace Go.Proofs.Ytjceajgefpinpaa
open Go.RowKit
/-- A record. -/
structure Rc where
  k : Int
  b : Int
  n : Int
  f : Int
/-- A state. -/
structure Bt where
  b : Int
  n : Int
  f : Int
  t : Bool
  i : Int
  o : Int
abbrev btC (s : Bt) : List Value := [.int .i64 s.b, .int .i64 s.n, .int .i64 s.f, .bool s.t, .int .i64 s.i, .int .i64 s.o]
abbrev rcC (r : Rc) : List Value := [.int .i64 r.k, .int .i64 r.b, .int .i64 r.n, .int .i64 r.f]
abbrev btW (s : Bt) : Value := btV s.b s.n s.f s.t s.i s.o
abbrev stV (s : Bt × Bool) : Value := .tuple #[btW s.1, .bool s.2]
abbrev Rc.Ok (r : Rc) : Prop := rcOk r.k r.b r.n r.f
abbrev Bt.Ok (s : Bt) : Prop := btOk s.b s.n s.f s.t s.i s.o
/-- What a record leaves of a state, and whether it fits. -/
def stT (s : Bt) (r : Rc) : Bt × Bool :=
  if r.k = 3 then (if s.t = true ∨ r.b = s.b then (s, false) else (⟨r.b, r.n, s.f, true, 0, s.n⟩, true))
  else if r.k = 4 then (if s.t = false ∨ 3 ≤ s.i then (s, false) else (⟨s.b, s.n, s.f, s.t, s.i + 1, s.o⟩, true))
  else if r.k = 5 then (if s.t = false then (s, false) else (⟨s.b, s.n, max s.f r.f, false, 0, 0⟩, true))
  else if r.k = 6 then (if s.t = false then (s, false) else (⟨1 - s.b, s.o, s.f, false, 0, 0⟩, true))
  else (s, false)
/-- What Step answers. -/
def stepT (s : Bt) (r : Rc) : Bt × Bool := if s.Ok ∧ r.Ok then stT s r else (⟨0, 0, 0, false, 0, 0⟩, false)
theorem stT_ok {s : Bt} {r : Rc} (hs : s.Ok) (hr : r.Ok) : (stT s r).1.Ok := by
  obtain ⟨b, n, f, t, i, o⟩ := s
  obtain ⟨k, rb, rn, rf⟩ := r
  unfold stT
  dsimp only [Bt.Ok, Rc.Ok] at hs hr ⊢
  obtain ⟨h1, h2, h3, h4⟩ := hs
  split
  · split
    · exact ⟨h1, h2, h3, h4⟩
    · next h5 h6 =>
      cases t
      · exact ⟨by dsimp only; omega, by dsimp only; omega, by dsimp only; omega, by rw [if_pos rfl]; dsimp only; omega⟩
      · exact absurd (.inl rfl) h6
  split
  · split
    · exact ⟨h1, h2, h3, h4⟩
    · next h5 h6 =>
      cases t
      · exact absurd (.inl rfl) h6
      · rw [if_pos rfl] at h4
        exact ⟨h1, h2, h3, by rw [if_pos rfl]; dsimp only; omega⟩
  split
  · split
    · exact ⟨h1, h2, h3, h4⟩
    · exact ⟨h1, h2, by dsimp only; omega, by rw [if_neg (by simp)]; exact ⟨rfl, rfl⟩⟩
  split
  · split
    · exact ⟨h1, h2, h3, h4⟩
    · next h5 h6 =>
      cases t
      · exact absurd rfl h6
      · rw [if_pos rfl] at h4
        exact ⟨by dsimp only; omega, by dsimp only; omega, h3, by rw [if_neg (by simp)]; exact ⟨rfl, rfl⟩⟩
  exact ⟨h1, h2, h3, h4⟩
theorem stT_floor {s : Bt} {r : Rc} : s.f ≤ (stT s r).1.f := by
  unfold stT
  repeat' split
  all_goals first | exact Int.le_refl _ | (dsimp only; omega)
end Go.Proofs.Ytjceajgefpinpaa
namespace Go.Proofs.Ytjceajgefpinpaa
open Go.RowKit

/-- Nothing old has turned but two blocks. -/
structure Gr2 (w w' : World) (r1 r2 : Option Nat) : Prop where
  os : w'.os = w.os
  tape : w'.tape = w.tape
  output : w'.output = w.output
  size : w.heap.size ≤ w'.heap.size
  block : ∀ i, i < w.heap.size → some i ≠ r1 → some i ≠ r2 → w'.heap[i]? = w.heap[i]?

theorem Gr2.below {w W W' : World} {r1 r2 : Option Nat} (h : Gr2 W W' r1 r2) (hb : Below w.heap.size w W) (h1 : ∀ k, r1 = some k → w.heap.size ≤ k) (h2 : ∀ k, r2 = some k → w.heap.size ≤ k) : Below w.heap.size w W' :=
  ⟨h.os.trans hb.os, h.tape.trans hb.tape, h.output.trans hb.output, Nat.le_trans hb.size h.size, fun i hi => (h.block i (Nat.lt_of_lt_of_le hi hb.size) (fun e => by have := h1 i e.symm; omega) (fun e => by have := h2 i e.symm; omega)).trans (hb.block i hi)⟩
theorem Gr2.own {W W' : World} {u1 u2 v : Value} {B e s n : Nat} {l : List Value} (h : Gr2 W W' u1.ownBlock u2.ownBlock) (ho : W.ownsRow B e s v n l) (a1 : Apart u1 v) (a2 : Apart u2 v) : W'.ownsRow B e s v n l := by
  refine ⟨ho.1, ?_⟩
  rcases ho.2 with hn | ⟨g, cap, cur, rfl, hg, hgg, rest⟩
  · exact .inl hn
  · refine .inr ⟨g, cap, cur, rfl, hg, ?_, rest⟩
    rw [h.block g (Array.getElem?_eq_some_iff.1 hgg).1 (fun e => a1 g e.symm rfl) (fun e => a2 g e.symm rfl)]
    exact hgg
theorem Gr2.arr {W W' : World} {r1 r2 : Option Nat} {g : Nat} {t : TypeId} {cs : List Value} (h : Gr2 W W' r1 r2) (ha : Arr W g t cs) (h1 : r1 ≠ some g) (h2 : r2 ≠ some g) : Arr W' g t cs := by
  unfold Arr
  rw [h.block g ha.lt (Ne.symm h1) (Ne.symm h2)]
  exact ha

theorem Gr2.cellsOf {W W' : World} {u1 u2 : Value} {a b g : Nat} {t : TypeId} {cs : List Value} (hg : Gr2 W W' u1.ownBlock u2.ownBlock) (h : Arr W g t cs) (i1 : In u1 a b) (i2 : In u2 a b) (hl : g < a ∨ b ≤ g) : Arr W' g t cs := hg.arr h (i1.ne hl) (i2.ne hl)
theorem grown_arr {W W' : World} {u : Value} {a b g : Nat} {t : TypeId} {cs : List Value} (hg : W.grownBy W' u.ownBlock) (h : Arr W g t cs) (i1 : In u a b) (hl : g < a ∨ b ≤ g) : Arr W' g t cs := by
  unfold Arr
  rw [hg.block g h.lt (fun e => i1.ne hl e.symm)]
  exact h
end Go.Proofs.Ytjceajgefpinpaa
namespace Go.Proofs.Ytjceajgefpinpaa
set_option maxRecDepth 100000
open Go.RowKit

/-- Nothing old has turned but what lies in an interval of blocks. -/
structure Chg (W W' : World) (a b : Nat) : Prop where
  os : W'.os = W.os
  tape : W'.tape = W.tape
  output : W'.output = W.output
  size : W.heap.size ≤ W'.heap.size
  block : ∀ i, i < W.heap.size → (i < a ∨ b ≤ i) → W'.heap[i]? = W.heap[i]?

theorem Chg.of_below {W W' : World} (h : Below W.heap.size W W') (a : Nat) : Chg W W' a a := ⟨h.os, h.tape, h.output, h.size, fun i hi _ => h.block i hi⟩
theorem Chg.of_gr2 {W W' : World} {u v : Value} {a b : Nat} (h : Gr2 W W' u.ownBlock v.ownBlock) (i1 : In u a b) (i2 : In v a b) : Chg W W' a b :=
  ⟨h.os, h.tape, h.output, h.size, fun i hi hj => h.block i hi (fun e => by have := i1 i e.symm; omega) (fun e => by have := i2 i e.symm; omega)⟩
theorem Chg.of_grown {W W' : World} {u : Value} {a b : Nat} (h : W.grownBy W' u.ownBlock) (i1 : In u a b) : Chg W W' a b :=
  ⟨h.os, h.tape, h.output, h.size, fun i hi hj => h.block i hi (fun e => by have := i1 i e.symm; omega)⟩
theorem Chg.alloc (W : World) (o : Obj) (a : Nat) : Chg W (W.alloc o) a a := .of_below ((Below.refl _ _).alloc (Nat.le_refl _) _) a
theorem Chg.bel {w W W' : World} {a b : Nat} (h : Chg W W' a b) (hb : Below w.heap.size w W) (hl : b ≤ a ∨ w.heap.size ≤ a) : Below w.heap.size w W' :=
  ⟨h.os.trans hb.os, h.tape.trans hb.tape, h.output.trans hb.output, Nat.le_trans hb.size h.size, fun i hi => (h.block i (Nat.lt_of_lt_of_le hi hb.size) (by omega)).trans (hb.block i hi)⟩
theorem Arr.chg {W W' : World} {a b g : Nat} {t : TypeId} {cs : List Value} (h : Arr W g t cs) (hc : Chg W W' a b) (hl : g < a ∨ b ≤ g) : Arr W' g t cs := by
  unfold Arr
  rw [hc.block g h.lt hl]
  exact h
theorem own_chg {W W' : World} {lo hi a b e s n : Nat} {v : Value} {l : List Value} (h : W.ownsRow lo e s v n l) (i : In v lo hi) (hc : Chg W W' a b) (hl : hi ≤ a ∨ b ≤ lo) : W'.ownsRow lo e s v n l := by
  refine ⟨h.1, ?_⟩
  rcases h.2 with hn | ⟨g, cap, cur, rfl, hg, hgg, rest⟩
  · exact .inl hn
  · refine .inr ⟨g, cap, cur, rfl, hg, ?_, rest⟩
    have := i g rfl
    rw [hc.block g (Array.getElem?_eq_some_iff.1 hgg).1 (by omega)]
    exact hgg

/-- A row within [lo, hi). -/
structure Ro (W : World) (lo hi e : Nat) (v : Value) (n : Nat) (l : List Value) : Prop where
  o : W.ownsRow lo e 1 v n l
  i : In v lo hi
  z : hi ≤ W.heap.size
section
variable {W W' : World} {lo hi e n : Nat} {v : Value} {l : List Value}
theorem Ro.new (o : W.ownsRow lo e 1 v n l) : Ro W lo W.heap.size e v n l := ⟨o, In.of o, Nat.le_refl _⟩
theorem Ro.chg (h : Ro W lo hi e v n l) {a b : Nat} (hc : Chg W W' a b) (hl : hi ≤ a ∨ b ≤ lo ∨ b ≤ a) : Ro W' lo hi e v n l := by
  by_cases hab : b ≤ a
  · have hc' : Chg W W' hi hi := ⟨hc.os, hc.tape, hc.output, hc.size, fun i hi _ => hc.block i hi (by omega)⟩
    exact ⟨own_chg h.o h.i hc' (by omega), h.i, Nat.le_trans h.z hc.size⟩
  · exact ⟨own_chg h.o h.i hc (by omega), h.i, Nat.le_trans h.z hc.size⟩
theorem Ro.marked (h : Ro W lo hi e v n l) {l' : List Value} (hg : W.grownBy W' v.ownBlock) (o : W'.ownsRow lo e 1 v n l') : Ro W' lo hi e v n l' := ⟨o, h.i, Nat.le_trans h.z hg.size⟩
theorem Ro.gr (h : Ro W lo hi e v n l) (hg : W.grownBy W' v.ownBlock) : Chg W W' lo hi := .of_grown hg h.i
end
end Go.Proofs.Ytjceajgefpinpaa
namespace Go.Proofs.Ytjceajgefpinpaa
open Go.RowKit
set_option maxRecDepth 100000

abbrev rz : Rc := ⟨0, 0, 0, 0⟩
def rg (xs : List Rc) (i : Nat) : Rc := xs.getD i rz
/-- The cells of records in a row. -/
def FL : List Rc → List Value
  | [] => []
  | r :: t => .int .i64 r.k :: .int .i64 r.b :: .int .i64 r.n :: .int .i64 r.f :: FL t
theorem FL_len : ∀ xs : List Rc, (FL xs).length = xs.length * 4
  | [] => rfl
  | _ :: t => by simp [FL, FL_len t]; omega
theorem FL_get : ∀ (xs : List Rc) (i : Nat), i < xs.length → (FL xs)[i * 4]? = some (.int .i64 (rg xs i).k) ∧ (FL xs)[i * 4 + 1]? = some (.int .i64 (rg xs i).b) ∧ (FL xs)[i * 4 + 2]? = some (.int .i64 (rg xs i).n) ∧ (FL xs)[i * 4 + 3]? = some (.int .i64 (rg xs i).f)
  | [], i, h => by simp at h
  | r :: t, 0, _ => ⟨rfl, rfl, rfl, rfl⟩
  | r :: t, i + 1, h => by
    have e : (i + 1) * 4 = i * 4 + 4 := by omega
    rw [e]
    exact FL_get t i (by simpa using h)
theorem FL_set : ∀ (xs : List Rc) (i : Nat) (r : Rc), i < xs.length → FL (xs.set i r) = ((((FL xs).set (i * 4) (.int .i64 r.k)).set (i * 4 + 1) (.int .i64 r.b)).set (i * 4 + 2) (.int .i64 r.n)).set (i * 4 + 3) (.int .i64 r.f)
  | [], i, r, h => by simp at h
  | x :: t, 0, r, _ => rfl
  | x :: t, i + 1, r, h => by
    have e : (i + 1) * 4 = i * 4 + 4 := by omega
    rw [e]
    show _ :: _ :: _ :: _ :: FL (t.set i r) = _ :: _ :: _ :: _ :: _
    rw [FL_set t i r (by simpa using h)]
theorem FL_app : ∀ xs ys : List Rc, FL (xs ++ ys) = FL xs ++ FL ys
  | [], _ => rfl
  | x :: t, ys => by show _ :: _ :: _ :: _ :: FL (t ++ ys) = _; rw [FL_app t ys]; rfl
theorem FL_rep (n : Nat) : (madeCells #[Value.int .i64 0, .int .i64 0, .int .i64 0, .int .i64 0] (n * 4)).toList = FL (List.replicate n rz) := by
  apply List.ext_getElem?
  intro i
  by_cases hi : i < n * 4
  · have h1 : (madeCells #[Value.int .i64 0, .int .i64 0, .int .i64 0, .int .i64 0] (n * 4)).toList[i]? = some (.int .i64 0) := by
      unfold madeCells
      have : i % 4 = 0 ∨ i % 4 = 1 ∨ i % 4 = 2 ∨ i % 4 = 3 := by omega
      simp [hi]
      rcases this with h | h | h | h <;> simp [h]
    rw [h1]
    obtain ⟨a, b, c, d⟩ := FL_get (List.replicate n rz) (i / 4) (by simp; omega)
    have e : rg (List.replicate n rz) (i / 4) = rz := by unfold rg; simp only [List.getD_eq_getElem?_getD, List.getElem?_replicate]; split <;> rfl
    rw [e] at a b c d
    have : i = i / 4 * 4 ∨ i = i / 4 * 4 + 1 ∨ i = i / 4 * 4 + 2 ∨ i = i / 4 * 4 + 3 := by omega
    rcases this with h | h | h | h <;> rw [h]
    · exact a.symm
    · exact b.symm
    · exact c.symm
    · exact d.symm
  · rw [List.getElem?_eq_none (by rw [Array.length_toList, size_madeCells]; omega), List.getElem?_eq_none (by rw [FL_len]; simp; omega)]
theorem rg_set (xs : List Rc) (i j : Nat) (r : Rc) (h : i < xs.length) : rg (xs.set i r) j = if j = i then r else rg xs j := by
  unfold rg
  by_cases e : j = i
  · subst e; simp [h]
  · have e' : ¬ i = j := fun h => e h.symm
    simp [e, e']
theorem rg_ext {xs ys : List Rc} (h : xs.length = ys.length) (hg : ∀ i, i < xs.length → rg xs i = rg ys i) : xs = ys := by
  apply List.ext_getElem h
  intro i h1 h2
  have := hg i h1
  unfold rg at this
  simpa [h1, h2] using this
theorem rg_take (xs : List Rc) (k i : Nat) (h : i < k) : rg (xs.take k) i = rg xs i := by
  unfold rg
  simp [List.getD_eq_getElem?_getD, h]
theorem rc_snoc (xs : List Rc) (k : Nat) (h : k < xs.length) : xs.take (k + 1) = xs.take k ++ [rg xs k] := by
  rw [List.take_succ_eq_append_getElem h]; simp [rg, h]
structure Rat (W : World) (b o : Nat) (r : Rc) : Prop where
  h0 : W.cell? ⟨b, o, none⟩ = some (.int .i64 r.k)
  h1 : W.cell? ⟨b, o + 1, none⟩ = some (.int .i64 r.b)
  h2 : W.cell? ⟨b, o + 2, none⟩ = some (.int .i64 r.n)
  h3 : W.cell? ⟨b, o + 3, none⟩ = some (.int .i64 r.f)
theorem Rat.below {W W' : World} {b o : Nat} {x : Rc} (h : Rat W b o x) (l : b < W.heap.size) (hb : Below W.heap.size W W') : Rat W' b o x :=
  ⟨(hb.cell (p := ⟨b, _, none⟩) l).trans h.h0, (hb.cell (p := ⟨b, _, none⟩) l).trans h.h1, (hb.cell (p := ⟨b, _, none⟩) l).trans h.h2, (hb.cell (p := ⟨b, _, none⟩) l).trans h.h3⟩
/-- What a slice of records reads as. -/
def Rs (w : World) (a : Option Addr) (n cap : Nat) (xs : List Rc) : Prop :=
  (a = none → cap = 0) ∧ xs.length = n ∧ n ≤ cap ∧ (n = 0 ∨ ∃ b o, a = some ⟨b, o, none⟩ ∧ b < w.heap.size ∧ ∀ i, i < n → Rat w b (o + i * 4) (rg xs i))
theorem Rs.below {w w' : World} {a : Option Addr} {n cap : Nat} {xs : List Rc} (h : Rs w a n cap xs) (hb : Below w.heap.size w w') : Rs w' a n cap xs := by
  obtain ⟨h0, h1, h2, h4⟩ := h
  refine ⟨h0, h1, h2, ?_⟩
  rcases h4 with h4 | ⟨b, o, ha, hlt, hc⟩
  · exact .inl h4
  · exact .inr ⟨b, o, ha, Nat.lt_of_lt_of_le hlt hb.size, fun j hj => (hc j hj).below hlt hb⟩
theorem Rs.opened {w : World} {a : Option Addr} {n cap : Nat} {xs : List Rc} (h : Rs w a n cap xs) (hn : 0 < n) : ∃ b o, a = some ⟨b, o, none⟩ ∧ b < w.heap.size ∧ ∀ i, i < n → Rat w b (o + i * 4) (rg xs i) := by
  rcases h.2.2.2 with h | h
  · omega
  · exact h
section
variable {w : World} {lo t n cap g : Nat} {xs : List Rc}
theorem rq_len {v : Value} (h : w.ownsRow lo t 4 v n (FL xs)) : xs.length = n := by have := h.1; rw [FL_len] at this; omega
theorem rq_at (h : w.ownsRow lo t 4 (.slice (some ⟨g, 0, none⟩) n cap) n (FL xs)) (i : Nat) (hi : i < n) : Rat w g (i * 4) (rg xs i) := by
  have hl := rq_len h
  obtain ⟨a, b, c, d⟩ := FL_get xs i (by omega)
  exact ⟨(h.cellAt _ (by omega)).trans a, (h.cellAt _ (by omega)).trans b, (h.cellAt _ (by omega)).trans c, (h.cellAt _ (by omega)).trans d⟩
theorem rq_set (h : w.ownsRow lo t 4 (.slice (some ⟨g, 0, none⟩) n cap) n (FL xs)) (i : Nat) (hi : i < n) (r : Rc) :
    ((((w.setCell ⟨g, i * 4, none⟩ (.int .i64 r.k)).setCell ⟨g, i * 4 + 1, none⟩ (.int .i64 r.b)).setCell ⟨g, i * 4 + 2, none⟩ (.int .i64 r.n)).setCell ⟨g, i * 4 + 3, none⟩ (.int .i64 r.f)).ownsRow lo t 4 (.slice (some ⟨g, 0, none⟩) n cap) n (FL (xs.set i r)) := by
  rw [FL_set xs i r (by rw [rq_len h]; exact hi)]
  exact ((((h.stored (i * 4) (.int .i64 r.k)).1.stored (i * 4 + 1) (.int .i64 r.b)).1.stored (i * 4 + 2) (.int .i64 r.n)).1.stored (i * 4 + 3) (.int .i64 r.f)).1
theorem Rs.own {v : Value} (h : w.ownsRow lo t 4 v n (FL xs)) : ∃ a cap, v = .slice a n cap ∧ cap ≤ maxLen ∧ Rs w a n cap xs := by
  have hl := rq_len h
  rcases h.2 with ⟨rfl, rfl⟩ | ⟨g, cap, cur, rfl, hg, hgg, h1, h2, h3, h4⟩
  · exact ⟨none, 0, rfl, by unfold maxLen; omega, fun _ => rfl, hl, Nat.le_refl _, .inl rfl⟩
  · exact ⟨_, cap, rfl, h2, (fun h => by cases h), hl, h1, .inr ⟨g, 0, rfl, (Array.getElem?_eq_some_iff.1 hgg).1, fun i hi => by simpa using rq_at h i hi⟩⟩
theorem rs_of_own {a : Option Addr} {c : Nat} (h : w.ownsRow lo t 4 (.slice a n c) n (FL xs)) : Rs w a n c xs := by
  obtain ⟨a', c', e, _, hb⟩ := Rs.own h
  simp only [Value.slice.injEq, true_and] at e
  obtain ⟨rfl, rfl⟩ := e
  exact hb
end
/-- A row of records within [lo, hi). -/
structure Rq (W : World) (lo hi e : Nat) (v : Value) (n : Nat) (l : List Rc) : Prop where
  o : W.ownsRow lo e 4 v n (FL l)
  i : In v lo hi
  z : hi ≤ W.heap.size
section
variable {W W' : World} {lo hi e n : Nat} {v : Value} {l : List Rc}
theorem Rq.new (o : W.ownsRow lo e 4 v n (FL l)) : Rq W lo W.heap.size e v n l := ⟨o, In.of o, Nat.le_refl _⟩
theorem Rq.chg (h : Rq W lo hi e v n l) {a b : Nat} (hc : Chg W W' a b) (hl : hi ≤ a ∨ b ≤ lo ∨ b ≤ a) : Rq W' lo hi e v n l := by
  by_cases hab : b ≤ a
  · have hc' : Chg W W' hi hi := ⟨hc.os, hc.tape, hc.output, hc.size, fun i hi _ => hc.block i hi (by omega)⟩
    exact ⟨own_chg h.o h.i hc' (by omega), h.i, Nat.le_trans h.z hc.size⟩
  · exact ⟨own_chg h.o h.i hc (by omega), h.i, Nat.le_trans h.z hc.size⟩
theorem Rq.marked (h : Rq W lo hi e v n l) {l' : List Rc} (hg : W.grownBy W' v.ownBlock) (o : W'.ownsRow lo e 4 v n (FL l')) : Rq W' lo hi e v n l' := ⟨o, h.i, Nat.le_trans h.z hg.size⟩
theorem Rq.gr (h : Rq W lo hi e v n l) (hg : W.grownBy W' v.ownBlock) : Chg W W' lo hi := .of_grown hg h.i
end
end Go.Proofs.Ytjceajgefpinpaa

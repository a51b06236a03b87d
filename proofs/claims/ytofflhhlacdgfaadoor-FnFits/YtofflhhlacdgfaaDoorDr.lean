/-
  What is proved here: contracts of what is drawn with a cursor (l1PickInt): a number of the list; nothing but the cursor turns; for every code.
-/
import Derived.Test.YtofflhhlacdgfaaDoorCu
import Derived.Test.YtofflhhlacdgfaaDoorJP7
namespace Go.Proofs.YtofflhhlacdgfaaDoor
open Go.RowKit

/-- What each draw leaves: the cursor is one, nothing but it has turned. -/
structure Drawn (W W' : World) (p : Nat) (a : Option Addr) (n c : Nat) : Prop where
  cur : Cur W' p a n c
  gr : W.grownBy W' (some p)

theorem cur_lt {W : World} {p n c : Nat} {a : Option Addr} (h : Cur W p a n c) : p < W.heap.size := by
  obtain ⟨i, hh, _, hp⟩ := h
  exact (Array.getElem?_eq_some_iff.1 hp).1

theorem cur_keep {W W' : World} {p n c : Nat} {a : Option Addr} {row : Option Nat} (h : Cur W p a n c) (hg : W.grownBy W' row) (hr : row ≠ some p) : Cur W' p a n c := by
  have hlt := cur_lt h
  obtain ⟨i, hh, hi, hp⟩ := h
  exact ⟨i, hh, hi, (hg.block p hlt (fun e => hr e.symm)).trans hp⟩

theorem grown_alloc (w : World) (o : Obj) (r : Option Nat) : w.grownBy (w.alloc o) r := World.grownBy_alloc w o r

set_option maxHeartbeats 1000000 in
theorem curPick (p : Nat) (a : Option Addr) (n c : Nat) (xs : List Int) (g m : Nat) (L : List Int) (w : World) (hcur : Cur w p a n c) (hcode : Coded w p a n c xs)
    (hL : L.length = m) (hm : 0 < m) (hm2 : m ≤ 100) (hgp : g ≠ p) (hcells : ∀ j, j < m → w.cell? ⟨g, j, none⟩ = some (.int .i64 (L.getD j 0))) :
    Calls Tryd.prog 76 #[.pointer (some ⟨p, 0, none⟩), .slice (some ⟨g, 0, none⟩) m m] w fun e w' => ∃ x : Int, e = .returned (.int .i64 x) ∧ x ∈ L ∧ Cur w' p a n c ∧ w.grownBy w' (some p) := by
  go_enter Tryd.func76, Tryd.ntmps76
  go_wp2_with fail
  refine (curBelow p a n c xs _ _ hcur hcode (by omega)).mono ?_
  rintro e w1 ⟨k, rfl, hk0, hk1, _, hc1, hg1⟩
  have hk2 := hk1 (by omega)
  clear hk1
  obtain ⟨K, rfl⟩ := Int.eq_ofNat_of_zero_le hk0
  obtain ⟨x, hx⟩ : ∃ x, x = L.getD K 0 := ⟨_, rfl⟩
  have hck : w1.cell? ⟨g, K, none⟩ = some (.int .i64 x) := by rw [hx]; exact hg1.cell (hcells K (by omega)) (by simpa using hgp)
  have HM : Hid (x ∈ L) := by
    unfold Hid
    have e : L.getD K 0 = L[K]'(by omega) := by simp [show K < L.length by omega]
    rw [hx, e]; exact List.getElem_mem _
  clear hcells hx
  go_wp2
  go_ret
  exact ⟨x, rfl, HM.out, hc1, hg1⟩

theorem cells_arr (w : World) (L : List Int) (t : TypeId) : ∀ j, j < L.length → (w.alloc (.cells (L.map (Value.int .i64)).toArray t)).cell? ⟨w.heap.size, j, none⟩ = some (.int .i64 (L.getD j 0)) := by
  intro j hj
  rw [World.cell?_alloc_at _ _ _ _ rfl]
  simp [hj]

/-- While something is drawn: the cursor lies behind all that was there, which is as it was. -/
structure Dw (w W : World) (a : Option Addr) (n c : Nat) : Prop where
  fr : Below w.heap.size w W
  cur : Cur W w.heap.size a n c

theorem coded_of {w W : World} {a : Option Addr} {n c : Nat} {xs : List Int} (h : Bs w a n c xs) (hm : n ≤ 9223372036854775807) (hb : Below w.heap.size w W) : Coded W w.heap.size a n c xs := by
  refine ⟨h.below hb, hm, ?_⟩
  intro b o s ha hn
  obtain ⟨_, _, _, _, h⟩ := h
  rcases h with h | ⟨b', o', ha', hbs, _⟩
  · exact absurd h hn
  · rw [ha'] at ha
    simp only [Option.some.injEq, Addr.mk.injEq] at ha
    omega

theorem Dw.draw {w W W' : World} {a : Option Addr} {n c : Nat} (h : Dw w W a n c) (hc : Cur W' w.heap.size a n c) (hg : W.grownBy W' (some w.heap.size)) : Dw w W' a n c :=
  ⟨h.fr.grown hg h.fr.size (fun k hk => by simp at hk; omega), hc⟩

theorem Dw.alloc {w W : World} {a : Option Addr} {n c : Nat} (h : Dw w W a n c) (o : Obj) : Dw w (W.alloc o) a n c :=
  ⟨h.fr.alloc h.fr.size o, cur_keep h.cur (grown_alloc W o none) (by simp)⟩

theorem Dw.app {w W W' : World} {a : Option Addr} {n c m : Nat} {v : Value} {l : List Value} (h : Dw w W a n c) (ho : W.ownsRow (w.heap.size + 1) 5 1 v m l) (hg : W.grownBy W' v.ownBlock) : Dw w W' a n c :=
  ⟨h.fr.grown hg h.fr.size (fun k hk => by have := (ho.lt k hk).1; omega), cur_keep h.cur hg (fun e => by have := (ho.lt _ e).1; omega)⟩

theorem Dw.lt {w W : World} {a : Option Addr} {n c : Nat} (h : Dw w W a n c) : w.heap.size + 1 ≤ W.heap.size := cur_lt h.cur

theorem own_draw {W W' : World} {p m : Nat} {v : Value} {l : List Value} (h : W.ownsRow (p + 1) 5 1 v m l) (hg : W.grownBy W' (some p)) : W'.ownsRow (p + 1) 5 1 v m l :=
  h.kept hg (by
    cases hv : v.ownBlock with
    | none => exact .inl rfl
    | some k => exact .inr (fun e => by have := (h.lt k hv).1; simp at e; omega))

/-- A row of bytes of the call's own. -/
def Rw (w W : World) (v : Value) (l : List Int) : Prop := W.ownsRow (w.heap.size + 1) 5 1 v l.length (U8 l) ∧ ∀ x ∈ l, 0 ≤ x ∧ x < 256

theorem Rw.draw {w W W' : World} {v : Value} {l : List Int} (h : Rw w W v l) (hg : W.grownBy W' (some w.heap.size)) : Rw w W' v l := ⟨own_draw h.1 hg, h.2⟩
theorem Rw.alloc {w W : World} {v : Value} {l : List Int} (h : Rw w W v l) (o : Obj) : Rw w (W.alloc o) v l := ⟨h.1.alloc o, h.2⟩
theorem Rw.kept {w W W' : World} {u v : Value} {l : List Int} (h : Rw w W v l) (hg : W.grownBy W' u.ownBlock) (ha : Apart u v) : Rw w W' v l := ⟨own_kept h.1 hg ha, h.2⟩
end Go.Proofs.YtofflhhlacdgfaaDoor

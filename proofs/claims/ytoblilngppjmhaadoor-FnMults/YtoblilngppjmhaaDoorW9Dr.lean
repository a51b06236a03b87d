/-
  What is proved here: contracts of what is drawn with a cursor (l1PickInt): a number of the list; nothing but the cursor turns; for every code; what the draws of numbers in parts stand on: the cursor, the code and the rows beside them; the contract of the specification's l6draw: a draw of a point in the long form, from a cursor over bytes.
-/
import Derived.Test.YtoblilngppjmhaaDoorW9Zrr
import Derived.Test.YtoblilngppjmhaaDoorW9Uff
import Derived.Test.YtoblilngppjmhaaDoorW9Arr
import Derived.Deep.RegionHeld3
import Derived.Test.YtoblilngppjmhaaDoorW9Uh
import Derived.Test.YtoblilngppjmhaaDoorW9Fa
namespace Go.Proofs.YtoblilngppjmhaaDoor
open Go.RowKit

theorem cur_lt {W : World} {p n c : Nat} {a : Option Addr} (h : Cur W p a n c) : p < W.heap.size := by
  obtain ⟨i, hh, _, hp⟩ := h
  exact (Array.getElem?_eq_some_iff.1 hp).1

theorem cur_keep {W W' : World} {p n c : Nat} {a : Option Addr} {row : Option Nat} (h : Cur W p a n c) (hg : W.grownBy W' row) (hr : row ≠ some p) : Cur W' p a n c := by
  have hlt := cur_lt h
  obtain ⟨i, hh, hi, hp⟩ := h
  exact ⟨i, hh, hi, (hg.block p hlt (fun e => hr e.symm)).trans hp⟩

theorem grown_alloc (w : World) (o : Obj) (r : Option Nat) : w.grownBy (w.alloc o) r := World.grownBy_alloc w o r

set_option maxHeartbeats 1000000 in
theorem curPick (p : Nat) (a : Option Addr) (n c : Nat) (xs : List Int) (g m : Nat) (L : List Int) (w : World) (hcur : Cur w p a n c) (hcode : Coded w p a n c xs)
    (hL : L.length = m) (hm : 0 < m) (hm2 : m ≤ 100) (hgp : g ≠ p) (hcells : ∀ j, j < m → w.cell? ⟨g, j, none⟩ = some (.int .i64 (L.getD j 0))) :
    Calls Tryd.prog 116 #[.pointer (some ⟨p, 0, none⟩), .slice (some ⟨g, 0, none⟩) m m] w fun e w' => ∃ x : Int, e = .returned (.int .i64 x) ∧ x ∈ L ∧ Cur w' p a n c ∧ w.grownBy w' (some p) := by
  go_enter Tryd.func116, Tryd.ntmps116
  go_wp2_with fail
  refine (curBelow p a n c xs _ _ hcur hcode (by omega)).mono ?_
  rintro e w1 ⟨k, rfl, hk0, hk1, _, hc1, hg1⟩
  have hk2 := hk1 (by omega)
  clear hk1
  obtain ⟨K, rfl⟩ := Int.eq_ofNat_of_zero_le hk0
  obtain ⟨x, hx⟩ : ∃ x, x = L.getD K 0 := ⟨_, rfl⟩
  have hck : w1.cell? ⟨g, K, none⟩ = some (.int .i64 x) := by rw [hx]; exact hg1.cell (hcells K (by omega)) (by simpa using hgp)
  have HM : Hid (x ∈ L) := by
    unfold Hid
    have e : L.getD K 0 = L[K]'(by omega) := by simp [show K < L.length by omega]
    rw [hx, e]; exact List.getElem_mem _
  clear hcells hx
  go_wp2
  go_ret
  exact ⟨x, rfl, HM.out, hc1, hg1⟩

theorem cells_arr (w : World) (L : List Int) (t : TypeId) : ∀ j, j < L.length → (w.alloc (.cells (L.map (Value.int .i64)).toArray t)).cell? ⟨w.heap.size, j, none⟩ = some (.int .i64 (L.getD j 0)) := by
  intro j hj
  rw [World.cell?_alloc_at _ _ _ _ rfl]
  simp [hj]

/-- While something is drawn: the cursor lies behind all that was there, which is as it was. -/
structure Dw (w W : World) (a : Option Addr) (n c : Nat) : Prop where
  fr : Below w.heap.size w W
  cur : Cur W w.heap.size a n c

theorem Dw.draw {w W W' : World} {a : Option Addr} {n c : Nat} (h : Dw w W a n c) (hc : Cur W' w.heap.size a n c) (hg : W.grownBy W' (some w.heap.size)) : Dw w W' a n c :=
  ⟨h.fr.grown hg h.fr.size (fun k hk => by simp at hk; omega), hc⟩

theorem Dw.alloc {w W : World} {a : Option Addr} {n c : Nat} (h : Dw w W a n c) (o : Obj) : Dw w (W.alloc o) a n c :=
  ⟨h.fr.alloc h.fr.size o, cur_keep h.cur (grown_alloc W o none) (by simp)⟩

theorem Dw.lt {w W : World} {a : Option Addr} {n c : Nat} (h : Dw w W a n c) : w.heap.size + 1 ≤ W.heap.size := cur_lt h.cur

theorem own_draw {W W' : World} {p m : Nat} {v : Value} {l : List Value} (h : W.ownsRow (p + 1) 5 1 v m l) (hg : W.grownBy W' (some p)) : W'.ownsRow (p + 1) 5 1 v m l :=
  h.kept hg (by
    cases hv : v.ownBlock with
    | none => exact .inl rfl
    | some k => exact .inr (fun e => by have := (h.lt k hv).1; simp at e; omega))

/-- A row of bytes of the call's own. -/
def Rw (w W : World) (v : Value) (l : List Int) : Prop := W.ownsRow (w.heap.size + 1) 5 1 v l.length (U8 l) ∧ ∀ x ∈ l, 0 ≤ x ∧ x < 256

theorem Rw.draw {w W W' : World} {v : Value} {l : List Int} (h : Rw w W v l) (hg : W.grownBy W' (some w.heap.size)) : Rw w W' v l := ⟨own_draw h.1 hg, h.2⟩
theorem Rw.alloc {w W : World} {v : Value} {l : List Int} (h : Rw w W v l) (o : Obj) : Rw w (W.alloc o) v l := ⟨h.1.alloc o, h.2⟩
theorem Rw.kept {w W W' : World} {u v : Value} {l : List Int} (h : Rw w W v l) (hg : W.grownBy W' u.ownBlock) (ha : Apart u v) : Rw w W' v l := ⟨own_kept h.1 hg ha, h.2⟩
end Go.Proofs.YtoblilngppjmhaaDoor
namespace Go.Proofs.YtoblilngppjmhaaDoor
open Go.RowKit
set_option maxRecDepth 100000

theorem arr_cur {W W' : World} {g p : Nat} {t : TypeId} {cs : List Value} (h : Arr W g t cs) (hg : W.grownBy W' (some p)) (hne : g ≠ p) : Arr W' g t cs := by
  unfold Arr
  rw [hg.block g h.lt (fun e => hne (Option.some.inj e))]
  exact h
theorem below_grown {W W' : World} (h : Below W.heap.size W W') (r : Option Nat) : W.grownBy W' r := ⟨h.os, h.tape, h.output, h.size, fun k hk _ => h.block k hk⟩
theorem grown_tr {A B C : World} {p : Nat} (h : A.grownBy B (some p)) (h' : B.grownBy C (some p)) : A.grownBy C (some p) :=
  grown_into h h' (by intro k hk; cases hk; exact .inr rfl)
/-- Where a draw stands: the cursor, the code, the result's cell. -/
structure Dq (w X : World) (p : Nat) (a : Option Addr) (n c : Nat) (xs : List Int) : Prop where
  gr : w.grownBy X (some p)
  cur : Cur X p a n c
  cod0 : Coded w p a n c xs
  pz : Arr X w.heap.size 82 (I64 Z16)
  hp : p < w.heap.size
section
variable {w X Y : World} {p : Nat} {a : Option Addr} {n c : Nat} {xs : List Int}
theorem Dq.cod (h : Dq w X p a n c xs) : Coded X p a n c xs := h.cod0.grown h.gr
theorem Dq.draw (h : Dq w X p a n c xs) (hc : Cur Y p a n c) (hg : X.grownBy Y (some p)) : Dq w Y p a n c xs :=
  have h1 := h.hp
  ⟨grown_tr h.gr hg, hc, h.cod0, arr_cur h.pz hg (by omega), h.hp⟩
theorem Dq.calm (h : Dq w X p a n c xs) (hb : Below X.heap.size X Y) : Dq w Y p a n c xs :=
  ⟨grown_tr h.gr (below_grown hb _), cur_keep h.cur (below_grown hb none) (by simp), h.cod0, h.pz.kept hb, h.hp⟩
theorem Dq.alloc (h : Dq w X p a n c xs) (o : Obj) : Dq w (X.alloc o) p a n c xs := h.calm ((Below.refl _ _).alloc (Nat.le_refl _) _)
end

/-- What a draw of a number answers: ints, in memory of its own. -/
def FeV (w w' : World) (v : Value) (l : List Int) : Prop := ∃ a n c, v = .agg #[.slice a n c] ∧ Is w' a n c l ∧ (∀ b o s, a = some ⟨b, o, s⟩ → w.heap.size < b) ∧ n ≤ 16

/-- A row of ints that is not frozen. -/
structure Rg4 (X : World) (g C : Nat) (l : List Int) : Prop where
  is : Is X (some ⟨g, 0, none⟩) 16 C l
  fz : ∀ j, X.frozen? ⟨g, j, none⟩ = false
  lt : g < X.heap.size
theorem Rg4.block {X Y : World} {g C : Nat} {l : List Int} (h : Rg4 X g C l) (hb : Y.heap[g]? = X.heap[g]?) (hs : X.heap.size ≤ Y.heap.size) : Rg4 Y g C l := by
  obtain ⟨⟨h0, h1, h2, h3, h4⟩, hf, hl⟩ := h
  refine ⟨⟨h0, h1, h2, h3, ?_⟩, fun j => by rw [World.frozen?_of_block (a := ⟨g, j, none⟩) hb]; exact hf j, by omega⟩
  rcases h4 with h4 | ⟨b, o, ha, hlt, hc⟩
  · omega
  · cases ha
    exact .inr ⟨g, 0, rfl, by omega, fun j hj => by rw [World.cell?_of_block (a := ⟨g, 0 + j, none⟩) hb]; exact hc j hj⟩
theorem Rg4.cell {X : World} {g C : Nat} {l : List Int} (h : Rg4 X g C l) (j : Nat) (hj : j < 16) : X.cell? ⟨g, j, none⟩ = some (.int .i64 (l.getD j 0)) := by
  obtain ⟨⟨h0, h1, h2, h3, h4⟩, hf, hl⟩ := h
  rcases h4 with h4 | ⟨b, o, ha, hlt, hc⟩
  · omega
  · cases ha
    have := hc j hj
    rw [Nat.zero_add] at this
    exact this
theorem Rg4.put {X : World} {g C : Nat} {l : List Int} (h : Rg4 X g C l) (k : Nat) (hk : k < 16) (x : Int) (hx : -9223372036854775808 ≤ x ∧ x ≤ 9223372036854775807) : Is (X.setCell ⟨g, k, none⟩ (.int .i64 x)) (some ⟨g, 0, none⟩) 16 C (l.set k x) := by
  have hck := h.cell k hk
  obtain ⟨⟨h0, h1, h2, h3, h4⟩, hf, hl⟩ := h
  refine ⟨h0, by simpa using h1, h2, ?_, ?_⟩
  · intro y hy
    rcases List.mem_or_eq_of_mem_set hy with h | h
    · exact h3 y h
    · rw [h]; exact hx
  · rcases h4 with h4 | ⟨b, o, ha, hlt, hc⟩
    · omega
    · cases ha
      refine .inr ⟨g, 0, rfl, by simpa using hlt, fun j hj => ?_⟩
      by_cases hj0 : j = k
      · subst hj0
        rw [show (⟨g, 0 + j, none⟩ : Addr) = ⟨g, j, none⟩ by rw [Nat.zero_add], World.cell?_setCell_same X ⟨g, j, none⟩ (.int .i64 x) hck]
        simp [List.getD, show j < l.length by omega]
      · rw [World.cell?_setCell_other X ⟨g, k, none⟩ ⟨g, 0 + j, none⟩ (.int .i64 x) (fun e => hj0 (by simpa using (Addr.mk.inj e).2.1.symm)), hc j hj]
        simp [List.getD, Ne.symm hj0]
theorem Rg4.rest {X : World} {g C : Nat} {l : List Int} (h : Rg4 X g C l) : Is X (some ⟨g, 1, none⟩) 15 (C - 1) (l.drop 1) := by
  obtain ⟨⟨h0, h1, h2, h3, h4⟩, hf, hl⟩ := h
  refine ⟨by simp, by simp [h1], by omega, fun x hx => h3 x (List.mem_of_mem_drop hx), .inr ⟨g, 1, rfl, hl, fun j hj => ?_⟩⟩
  rcases h4 with h4 | ⟨b, o, ha, hlt, hc⟩
  · omega
  · cases ha
    have := hc (1 + j) (by omega)
    rw [Nat.zero_add] at this
    rw [this]
    simp [List.getD, Nat.add_comm 1 j]

theorem own_row {X : World} {B : Nat} {v : Value} {l : List Int} (h : X.ownsRow B 3 1 v 16 (I64 l)) (hm : Lm l) : ∃ g C, v = .slice (some ⟨g, 0, none⟩) 16 C ∧ B ≤ g ∧ Rg4 X g C l := by
  have hi : ∀ x ∈ l, -9223372036854775808 ≤ x ∧ x ≤ 9223372036854775807 := fun x hx => by have := hm x hx; omega
  obtain ⟨a2, c2, e2, _, hi2⟩ := Is.own h hi
  rcases (own_shapeI h).2 with ⟨h1, h2⟩ | ⟨g, C, h1, hg, hgs, _, _, _, hf⟩
  · omega
  · subst e2
    cases h1
    exact ⟨g, _, rfl, hg, hi2, hf, hgs⟩
theorem is_far {V : World} {a : Option Addr} {n c : Nat} {l : List Int} (h : Is V a n c l) (k : Nat) (j : Nat) (v : Value) (hoff : ∀ b o s, a = some ⟨b, o, s⟩ → b ≠ k) : Is (V.setCell ⟨k, j, none⟩ v) a n c l := by
  obtain ⟨h0, h1, h2, h3, h4⟩ := h
  refine ⟨h0, h1, h2, h3, ?_⟩
  rcases h4 with h4 | ⟨b, o, ha, hlt, hc⟩
  · exact .inl h4
  · refine .inr ⟨b, o, ha, by simpa using hlt, fun i hi => ?_⟩
    rw [World.cell?_setCell_far V ⟨k, j, none⟩ ⟨b, o + i, none⟩ v (fun e => hoff b o none ha e.symm)]
    exact hc i hi
theorem is_cur {X Y : World} {a : Option Addr} {n c : Nat} {l : List Int} {p lo : Nat} (h : Is X a n c l) (hg : X.grownBy Y (some p)) (hoff : ∀ b o s, a = some ⟨b, o, s⟩ → lo < b) (hp : p ≤ lo) : Is Y a n c l := by
  obtain ⟨h0, h1, h2, h3, h4⟩ := h
  refine ⟨h0, h1, h2, h3, ?_⟩
  rcases h4 with h4 | ⟨b, o, ha, hlt, hc⟩
  · exact .inl h4
  · have hbp := hoff b o none ha
    exact .inr ⟨b, o, ha, Nat.lt_of_lt_of_le hlt hg.size, fun i hi => by rw [World.cell?_of_block (a := ⟨b, o + i, none⟩) (hg.block b hlt (fun e => by have := Option.some.inj e; omega))]; exact hc i hi⟩

end Go.Proofs.YtoblilngppjmhaaDoor
namespace Go.Proofs.YtoblilngppjmhaaDoor
open Go.RowKit
set_option maxRecDepth 100000

/-- Where a draw of a point stands. -/
structure Dq6 (w X : World) (p : Nat) (a : Option Addr) (n c : Nat) (xs : List Int) : Prop where
  gr : w.grownBy X (some p)
  cur : Cur X p a n c
  cod0 : Coded w p a n c xs
  pz : Arr X w.heap.size 108 (I64 Z64)
  hp : p < w.heap.size
section
variable {w X Y : World} {p : Nat} {a : Option Addr} {n c : Nat} {xs : List Int}
theorem Dq6.cod (h : Dq6 w X p a n c xs) : Coded X p a n c xs := h.cod0.grown h.gr
theorem Dq6.draw (h : Dq6 w X p a n c xs) (hc : Cur Y p a n c) (hg : X.grownBy Y (some p)) : Dq6 w Y p a n c xs :=
  have h1 := h.hp
  ⟨grown_tr h.gr hg, hc, h.cod0, arr_cur h.pz hg (by omega), h.hp⟩
theorem Dq6.calm (h : Dq6 w X p a n c xs) (hb : Below X.heap.size X Y) : Dq6 w Y p a n c xs :=
  ⟨grown_tr h.gr (below_grown hb _), cur_keep h.cur (below_grown hb none) (by simp), h.cod0, h.pz.kept hb, h.hp⟩
end
def minusOne : List Int := tk16 PL (lim 16 1)
theorem minusOne_ok : feOk minusOne = true := by
  unfold minusOne
  rw [tk16_lim PL_len (lim_len _ _)]
  decide
def two6 : E4 := mk6 (lim 16 0) minusOne
theorem two6_ok : two6.Ok := mk6_ok zero_ok minusOne_ok
theorem lim_lenm (x : Int) : (lim 16 x).length = 16 ∧ Lm (lim 16 x) := ⟨lim_len _ _, lim_lm _ _⟩

set_option maxHeartbeats 4000000 in
theorem curDraw6 (p : Nat) (a : Option Addr) (n c : Nat) (xs : List Int) (w : World) (hcur : Cur w p a n c) (hcode : Coded w p a n c xs) :
    Calls Tryd.prog 79 #[.pointer (some ⟨p, 0, none⟩)] w fun e w' => ∃ R : E4, e = .returned (.agg (I64 R.cells).toArray) ∧ R.Ok ∧ Cur w' p a n c ∧ w.grownBy w' (some p) := by
  have hp0 := cur_lt hcur
  obtain ⟨W, hW⟩ : ∃ W, W = w.alloc (.cells #[.int .i64 0, .int .i64 0, .int .i64 0, .int .i64 0, .int .i64 0, .int .i64 0, .int .i64 0, .int .i64 0, .int .i64 0, .int .i64 0, .int .i64 0, .int .i64 0, .int .i64 0, .int .i64 0, .int .i64 0, .int .i64 0, .int .i64 0, .int .i64 0, .int .i64 0, .int .i64 0, .int .i64 0, .int .i64 0, .int .i64 0, .int .i64 0, .int .i64 0, .int .i64 0, .int .i64 0, .int .i64 0, .int .i64 0, .int .i64 0, .int .i64 0, .int .i64 0, .int .i64 0, .int .i64 0, .int .i64 0, .int .i64 0, .int .i64 0, .int .i64 0, .int .i64 0, .int .i64 0, .int .i64 0, .int .i64 0, .int .i64 0, .int .i64 0, .int .i64 0, .int .i64 0, .int .i64 0, .int .i64 0, .int .i64 0, .int .i64 0, .int .i64 0, .int .i64 0, .int .i64 0, .int .i64 0, .int .i64 0, .int .i64 0, .int .i64 0, .int .i64 0, .int .i64 0, .int .i64 0, .int .i64 0, .int .i64 0, .int .i64 0, .int .i64 0] 108) := ⟨_, rfl⟩
  have DD : Dq6 w W p a n c xs := by
    rw [hW]
    exact ⟨grown_alloc _ _ _, cur_keep hcur (grown_alloc _ _ none) (by simp), hcode, Arr.new w (I64 Z64) _, hp0⟩
  have FIN : Hid (∀ (V : World) (R : E4), Dq6 w V p a n c xs → Cur (V.setRow w.heap.size (I64 R.cells).toArray) p a n c ∧ w.grownBy (V.setRow w.heap.size (I64 R.cells).toArray) (some p)) := by
    unfold Hid
    intro V R D
    have hb := setRow_below (B := w.heap.size) (w := V) (w' := V) (Below.refl _ _) w.heap.size (I64 R.cells).toArray (Nat.le_refl _)
    have hg : V.grownBy (V.setRow w.heap.size (I64 R.cells).toArray) (some w.heap.size) := ⟨hb.os, hb.tape, hb.output, hb.size, fun k hk hne => setRow_other V w.heap.size k _ (fun e => hne (by rw [e]))⟩
    refine ⟨cur_keep D.cur hg (by intro e; have := Option.some.inj e; omega), ?_⟩
    exact grown_into D.gr hg (by intro k hk; cases hk; exact .inl (Nat.le_refl _))
  go_enter Tryd.func79, Tryd.ntmps79
  go_upto_region 1 with fail
  rw [← hW]
  clear hW hcur hcode
  go_wp2_with fail
  refine (curBelow p a n c xs 5 _ DD.cur DD.cod (by omega)).mono ?_
  rintro e w1 ⟨x, rfl, hx0, hx1, _, hc1, hg1⟩
  replace hx1 := hx1 (by omega)
  replace DD := DD.draw hc1 hg1
  clear hc1 hg1
  by_cases h0 : x = 0
  · subst h0
    go_wp2_with fail
    refine (spec6zero _).mono ?_
    rintro e w2 ⟨rfl, hb⟩
    replace DD := DD.calm hb
    clear hb
    have hok := zero6_ok
    obtain ⟨R, hR⟩ : ∃ R, R = zero6 := ⟨_, rfl⟩
    rw [← hR] at hok ⊢
    clear hR
    have hRl := E4.len hok
    have hpz := DD.pz
    have hp2 := hpz.row (I64 R.cells)
    have hRi := infoP' hok
    have HF : Hid _ := FIN.out _ R DD
    clear DD FIN
    go_wp2_with (refine wpList_store_row rfl 108 _ _ rfl w.heap.size (I64 R.cells).toArray rfl rfl 108 _ hpz hRi (by simp [hRl]) (by simp [Value.oneCell']) ?_)
    exact bodyPost_ret (results_cell_row rfl _ _ w.heap.size 108 (I64 R.cells).toArray (0, 0) _ rfl hp2 Tryd.underlying108 rfl hRi) rfl ⟨R, rfl, hok, HF.out.1, HF.out.2⟩
  by_cases h1 : x = 1
  · subst h1
    go_wp2_with fail
    refine (spec6base _).mono ?_
    rintro e w3 ⟨rfl, hb⟩
    replace DD := DD.calm hb
    clear hb
    have hok := base6_ok
    obtain ⟨R, hR⟩ : ∃ R, R = base6 := ⟨_, rfl⟩
    rw [← hR] at hok ⊢
    clear hR
    have hRl := E4.len hok
    have hpz := DD.pz
    have hp2 := hpz.row (I64 R.cells)
    have hRi := infoP' hok
    have HF : Hid _ := FIN.out _ R DD
    clear DD FIN
    go_wp2_with (refine wpList_store_row rfl 108 _ _ rfl w.heap.size (I64 R.cells).toArray rfl rfl 108 _ hpz hRi (by simp [hRl]) (by simp [Value.oneCell']) ?_)
    exact bodyPost_ret (results_cell_row rfl _ _ w.heap.size 108 (I64 R.cells).toArray (0, 0) _ rfl hp2 Tryd.underlying108 rfl hRi) rfl ⟨R, rfl, hok, HF.out.1, HF.out.2⟩
  by_cases h2 : x = 2
  · subst h2
    go_wp2_with fail
    have HT : Hid (∀ Z, Calls Tryd.prog 127 #[.agg (I64 PL).toArray, .agg (I64 (lim 16 1)).toArray] Z fun e w' => e = .returned (.agg (I64 minusOne).toArray) ∧ Below Z.heap.size Z w') := by
      unfold Hid; intro Z; exact specTake PL (lim 16 1) Z PL_len (lim_len _ _) PL_lm (lim_lm _ _)
    have HM : Hid (∀ Z, Calls Tryd.prog 126 #[.agg (I64 (lim 16 0)).toArray, .agg (I64 minusOne).toArray] Z fun e w' => e = .returned (.agg (I64 two6.cells).toArray) ∧ Below Z.heap.size Z w') := by
      unfold Hid; intro Z; exact spec6make (lim 16 0) minusOne Z zero_ok minusOne_ok
    have H0 : Hid (∀ Z, Calls Tryd.prog 112 #[.int .i64 0] Z fun e w' => e = .returned (.agg (I64 (lim 16 0)).toArray) ∧ Below Z.heap.size Z w') := by
      unfold Hid; intro Z; exact specSmall 0 Z (by omega) (by omega)
    have H1 : Hid (∀ Z, Calls Tryd.prog 112 #[.int .i64 1] Z fun e w' => e = .returned (.agg (I64 (lim 16 1)).toArray) ∧ Below Z.heap.size Z w') := by
      unfold Hid; intro Z; exact specSmall 1 Z (by omega) (by omega)
    have HP : Hid (∀ Z, Calls Tryd.prog 128 #[] Z fun e w' => e = .returned (.agg (I64 PL).toArray) ∧ Below Z.heap.size Z w') := by
      unfold Hid; intro Z; exact specPrime Z
    obtain ⟨z0, hz0⟩ : ∃ z, z = lim 16 0 := ⟨_, rfl⟩
    obtain ⟨z1, hz1⟩ : ∃ z, z = lim 16 1 := ⟨_, rfl⟩
    obtain ⟨zm, hzm⟩ : ∃ z, z = minusOne := ⟨_, rfl⟩
    obtain ⟨zp, hzp⟩ : ∃ z, z = PL := ⟨_, rfl⟩
    rw [← hz0] at H0 HM
    rw [← hz1] at H1 HT
    rw [← hzm] at HT HM
    rw [← hzp] at HT HP
    clear hz0 hz1 hzm hzp
    refine (H0.out _).mono ?_
    rintro e w4 ⟨rfl, hb⟩
    replace DD := DD.calm hb
    clear hb
    go_wp2_with fail
    refine (HP.out _).mono ?_
    rintro e w5 ⟨rfl, hb⟩
    replace DD := DD.calm hb
    clear hb
    go_wp2_with fail
    refine (H1.out _).mono ?_
    rintro e w6 ⟨rfl, hb⟩
    replace DD := DD.calm hb
    clear hb
    go_wp2_with fail
    refine (HT.out _).mono ?_
    rintro e w7 ⟨rfl, hb⟩
    replace DD := DD.calm hb
    clear hb
    go_wp2_with fail
    refine (HM.out _).mono ?_
    rintro e w8 ⟨rfl, hb⟩
    replace DD := DD.calm hb
    clear hb
    have hok := two6_ok
    obtain ⟨R, hR⟩ : ∃ R, R = two6 := ⟨_, rfl⟩
    rw [← hR] at hok ⊢
    clear hR
    have hRl := E4.len hok
    have hpz := DD.pz
    have hp2 := hpz.row (I64 R.cells)
    have hRi := infoP' hok
    have HF : Hid _ := FIN.out _ R DD
    clear DD FIN
    go_wp2_with (refine wpList_store_row rfl 108 _ _ rfl w.heap.size (I64 R.cells).toArray rfl rfl 108 _ hpz hRi (by simp [hRl]) (by simp [Value.oneCell']) ?_)
    exact bodyPost_ret (results_cell_row rfl _ _ w.heap.size 108 (I64 R.cells).toArray (0, 0) _ rfl hp2 Tryd.underlying108 rfl hRi) rfl ⟨R, rfl, hok, HF.out.1, HF.out.2⟩
  go_wp2_with fail
  refine (spec6base _).mono ?_
  rintro e w9 ⟨rfl, hb⟩
  replace DD := DD.calm hb
  clear hb
  have HB := base6_ok
  obtain ⟨B6, hB6⟩ : ∃ R, R = base6 := ⟨_, rfl⟩
  rw [← hB6] at HB ⊢
  clear hB6
  go_wp2_with fail
  refine (curBelow p a n c xs 1000 _ DD.cur DD.cod (by omega)).mono ?_
  rintro e v1 ⟨j, rfl, hj0, hj1, _, hc4, hg4⟩
  replace hj1 := hj1 (by omega)
  replace DD := DD.draw hc4 hg4
  clear hc4 hg4
  have hw : IntKind.i64.wrap (1 + j) = 1 + j := by rw [IntKind.wrap_i64]; omega
  go_wp2_with fail
  refine (specSmall (1 + j) _ (by omega) (by omega)).mono ?_
  rintro e w10 ⟨rfl, hb⟩
  replace DD := DD.calm hb
  clear hb
  have hkl := lim_lenm (1 + j)
  obtain ⟨k, hk⟩ : ∃ k, k = lim 16 (1 + j) := ⟨_, rfl⟩
  rw [← hk] at hkl ⊢
  clear hk hw
  go_wp2_with fail
  refine (spec6mul B6 k _ HB hkl.1 hkl.2).mono ?_
  rintro e w11 ⟨rfl, hb⟩
  replace DD := DD.calm hb
  clear hb
  have hok : (mul6 B6 (val k).toNat).Ok := mst_ok B6 (val k).toNat 256
  obtain ⟨R, hR⟩ : ∃ R, R = mul6 B6 (val k).toNat := ⟨_, rfl⟩
  rw [← hR] at hok ⊢
  clear hR
  have hRl := E4.len hok
  have hpz := DD.pz
  have hp2 := hpz.row (I64 R.cells)
  have hRi := infoP' hok
  have HF : Hid _ := FIN.out _ R DD
  clear DD FIN
  go_wp2_with (refine wpList_store_row rfl 108 _ _ rfl w.heap.size (I64 R.cells).toArray rfl rfl 108 _ hpz hRi (by simp [hRl]) (by simp [Value.oneCell']) ?_)
  exact bodyPost_ret (results_cell_row rfl _ _ w.heap.size 108 (I64 R.cells).toArray (0, 0) _ rfl hp2 Tryd.underlying108 rfl hRi) rfl ⟨R, rfl, hok, HF.out.1, HF.out.2⟩
end Go.Proofs.YtoblilngppjmhaaDoor

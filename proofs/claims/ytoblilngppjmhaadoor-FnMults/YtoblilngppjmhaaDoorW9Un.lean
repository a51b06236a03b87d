/-
  What is proved here: the contract of the specification's l6bent: a draw of two lists that may be a point, from a cursor over bytes; the contract of the specification's DrawPtBytes; the contract of the specification's DrawPtAdd; contracts of the specification's l5order, l5isOk and ScOk: whether a slice of ints is a multiplier.
-/
import Derived.Test.YtoblilngppjmhaaDoorW9Dr
import Derived.Test.YtoblilngppjmhaaDoorW9Yh
import Derived.Test.YtoblilngppjmhaaDoorW9Ui
import Derived.Test.YtoblilngppjmhaaDoorW9Jlw
import Derived.Test.YtoblilngppjmhaaDoorW9Hf
import Derived.Test.YtoblilngppjmhaaDoorW9Uc
import Derived.Test.YtoblilngppjmhaaDoorW9Arr
import Derived.Test.YtoblilngppjmhaaDoorW9Fa
import Derived.Deep.RegionHeld3
namespace Go.Proofs.YtoblilngppjmhaaDoor
open Go.RowKit
set_option maxRecDepth 100000

theorem Is.dropP {w : World} {b o : Nat} {n c m : Nat} {xs : List Int} (h : Is w (some ⟨b, o, none⟩) n c xs) (hm : m ≤ n) : Is w (some ⟨b, o + m, none⟩) (n - m) (c - m) (xs.drop m) := by
  obtain ⟨h0, h1, h2, h3, h4⟩ := h
  refine ⟨(fun h => by cases h), by simp; omega, by omega, fun x hx => h3 x (List.mem_of_mem_drop hx), ?_⟩
  by_cases hz : n - m = 0
  · exact .inl hz
  rcases h4 with h4 | ⟨b', o', ha, hlt, hc⟩
  · exact .inl (by omega)
  · cases ha
    refine .inr ⟨b, o + m, rfl, hlt, fun j hj => ?_⟩
    have := hc (m + j) (by omega)
    rw [show o + m + j = o + (m + j) by omega, this]
    simp [List.getD, List.getElem?_drop]

/-- What a draw of a point answers: two lists of ints, in memory of its own. -/
def PtV (w w' : World) (v : Value) (xs ys : List Int) : Prop := ∃ a n c b m d, v = .agg #[.slice a n c, .slice b m d] ∧ Is w' a n c xs ∧ Is w' b m d ys ∧ (∀ k o s, a = some ⟨k, o, s⟩ → w.heap.size < k) ∧ (∀ k o s, b = some ⟨k, o, s⟩ → w.heap.size < k) ∧ n ≤ 16 ∧ m ≤ 16
/-- Where such a draw stands: the cursor, the code, the result's cell, the point's cell and its lists. -/
structure Bz6 (w X : World) (p E : Nat) (a : Option Addr) (n c : Nat) (xs : List Int) (a1 : Option Addr) (n1 c1 : Nat) (l1 : List Int) (a2 : Option Addr) (n2 c2 : Nat) (l2 : List Int) : Prop where
  gr : w.grownBy X (some p)
  cur : Cur X p a n c
  cod0 : Coded w p a n c xs
  pz : Arr X w.heap.size 27 [.slice none 0 0, .slice none 0 0]
  pe : Arr X E 27 [.slice a1 n1 c1, .slice a2 n2 c2]
  i1 : Is X a1 n1 c1 l1
  i2 : Is X a2 n2 c2 l2
  f1 : ∀ k o s, a1 = some ⟨k, o, s⟩ → w.heap.size < k
  f2 : ∀ k o s, a2 = some ⟨k, o, s⟩ → w.heap.size < k
  e1 : ∀ k o s, a1 = some ⟨k, o, s⟩ → k ≠ E
  e2 : ∀ k o s, a2 = some ⟨k, o, s⟩ → k ≠ E
  b1 : n1 ≤ 16
  b2 : n2 ≤ 16
  hp : p < w.heap.size
  hE : w.heap.size < E
section
variable {w X Y : World} {p E : Nat} {a : Option Addr} {n c : Nat} {xs : List Int} {a1 : Option Addr} {n1 c1 : Nat} {l1 : List Int} {a2 : Option Addr} {n2 c2 : Nat} {l2 : List Int}
theorem Bz6.cod (h : Bz6 w X p E a n c xs a1 n1 c1 l1 a2 n2 c2 l2) : Coded X p a n c xs := h.cod0.grown h.gr
theorem Bz6.draw (h : Bz6 w X p E a n c xs a1 n1 c1 l1 a2 n2 c2 l2) (hc : Cur Y p a n c) (hg : X.grownBy Y (some p)) : Bz6 w Y p E a n c xs a1 n1 c1 l1 a2 n2 c2 l2 :=
  have h1 := h.hp
  have h2 := h.hE
  ⟨grown_tr h.gr hg, hc, h.cod0, arr_cur h.pz hg (by omega), arr_cur h.pe hg (by omega), is_cur h.i1 hg h.f1 (by omega), is_cur h.i2 hg h.f2 (by omega), h.f1, h.f2, h.e1, h.e2, h.b1, h.b2, h.hp, h.hE⟩
/-- The first list is another. -/
theorem Bz6.put1 (h : Bz6 w X p E a n c xs a1 n1 c1 l1 a2 n2 c2 l2) {a3 : Option Addr} {n3 c3 : Nat} {l3 : List Int} (i3 : Is X a3 n3 c3 l3) (f3 : ∀ k o s, a3 = some ⟨k, o, s⟩ → w.heap.size < k) (e3 : ∀ k o s, a3 = some ⟨k, o, s⟩ → k ≠ E) (b3 : n3 ≤ 16) : Bz6 w (X.setCell ⟨E, 0, none⟩ (.slice a3 n3 c3)) p E a n c xs a3 n3 c3 l3 a2 n2 c2 l2 := by
  have h1 := h.hp
  have h2 := h.hE
  have gs := cur_grown2 X E (.slice a3 n3 c3) 0
  exact ⟨grown_into h.gr gs (by intro k hk; cases hk; exact .inl (by omega)), cur_keep h.cur gs (fun e => by have := Option.some.inj e; omega), h.cod0, h.pz.other _ _ (by show w.heap.size ≠ E; omega), h.pe.set 0 _, is_far i3 E 0 _ e3, is_far h.i2 E 0 _ h.e2, f3, h.f2, e3, h.e2, b3, h.b2, h.hp, h.hE⟩
theorem Bz6.put2 (h : Bz6 w X p E a n c xs a1 n1 c1 l1 a2 n2 c2 l2) {a3 : Option Addr} {n3 c3 : Nat} {l3 : List Int} (i3 : Is X a3 n3 c3 l3) (f3 : ∀ k o s, a3 = some ⟨k, o, s⟩ → w.heap.size < k) (e3 : ∀ k o s, a3 = some ⟨k, o, s⟩ → k ≠ E) (b3 : n3 ≤ 16) : Bz6 w (X.setCell ⟨E, 1, none⟩ (.slice a3 n3 c3)) p E a n c xs a1 n1 c1 l1 a3 n3 c3 l3 := by
  have h1 := h.hp
  have h2 := h.hE
  have gs := cur_grown2 X E (.slice a3 n3 c3) 1
  exact ⟨grown_into h.gr gs (by intro k hk; cases hk; exact .inl (by omega)), cur_keep h.cur gs (fun e => by have := Option.some.inj e; omega), h.cod0, h.pz.other _ _ (by show w.heap.size ≠ E; omega), h.pe.set 1 _, is_far h.i1 E 1 _ h.e1, is_far i3 E 1 _ e3, h.f1, f3, h.e1, e3, h.b1, b3, h.hp, h.hE⟩
/-- The point's cell is laid into the result's. -/
theorem Bz6.fin (h : Bz6 w X p E a n c xs a1 n1 c1 l1 a2 n2 c2 l2) : PtV w (X.setRow w.heap.size #[.slice a1 n1 c1, .slice a2 n2 c2]) (.agg #[.slice a1 n1 c1, .slice a2 n2 c2]) l1 l2 ∧ Cur (X.setRow w.heap.size #[.slice a1 n1 c1, .slice a2 n2 c2]) p a n c ∧ w.grownBy (X.setRow w.heap.size #[.slice a1 n1 c1, .slice a2 n2 c2]) (some p) ∧ Arr (X.setRow w.heap.size #[.slice a1 n1 c1, .slice a2 n2 c2]) w.heap.size 27 [.slice a1 n1 c1, .slice a2 n2 c2] := by
  have h1 := h.hp
  have hb := setRow_below (B := w.heap.size) (w := X) (w' := X) (Below.refl _ _) w.heap.size #[.slice a1 n1 c1, .slice a2 n2 c2] (Nat.le_refl _)
  have hg : X.grownBy (X.setRow w.heap.size #[.slice a1 n1 c1, .slice a2 n2 c2]) (some w.heap.size) := ⟨hb.os, hb.tape, hb.output, hb.size, fun k hk hne => setRow_other X w.heap.size k _ (fun e => hne (by rw [e]))⟩
  exact ⟨⟨a1, n1, c1, a2, n2, c2, rfl, is_cur h.i1 hg h.f1 (Nat.le_refl _), is_cur h.i2 hg h.f2 (Nat.le_refl _), h.f1, h.f2, h.b1, h.b2⟩, cur_keep h.cur hg (by intro e; have := Option.some.inj e; omega), grown_into h.gr hg (by intro k hk; cases hk; exact .inl (Nat.le_refl _)), h.pz.row [.slice a1 n1 c1, .slice a2 n2 c2]⟩
end

set_option maxHeartbeats 4000000 in
theorem curBent6 (p : Nat) (a : Option Addr) (n c : Nat) (xs : List Int) (w : World) (hcur : Cur w p a n c) (hcode : Coded w p a n c xs) :
    Calls Tryd.prog 54 #[.pointer (some ⟨p, 0, none⟩)] w fun e w' => ∃ v l1 l2, e = .returned v ∧ PtV w w' v l1 l2 ∧ Cur w' p a n c ∧ w.grownBy w' (some p) := by
  have hp0 := cur_lt hcur
  obtain ⟨W, hW⟩ : ∃ W, W = w.alloc (.cells #[.slice none 0 0, .slice none 0 0] 27) := ⟨_, rfl⟩
  have g0 : w.grownBy W (some p) := by rw [hW]; exact grown_alloc _ _ _
  have c0 : Cur W p a n c := by rw [hW]; exact cur_keep hcur (grown_alloc _ _ none) (by simp)
  have z0 : Arr W w.heap.size 27 [.slice none 0 0, .slice none 0 0] := by rw [hW]; exact Arr.new _ _ _
  go_enter Tryd.func54, Tryd.ntmps54
  go_upto_region 1 with fail
  rw [← hW]
  clear hW
  go_wp2_with fail
  refine (curDraw6 p a n c xs _ c0 (hcode.grown g0)).mono ?_
  rintro e w1 ⟨R, rfl, hok, k1, g1⟩
  have G1 := grown_tr g0 g1
  have z1 := arr_cur z0 g1 (by omega)
  clear g0 c0 z0 g1
  go_wp2_with fail
  refine (spec6out R _ hok).mono ?_
  rintro e w2 ⟨v, rfl, hpt, hb2⟩
  obtain ⟨aa, ca, ab, cb, rfl, oa, ob, _⟩ := hpt
  rw [flx_len, fly_len]
  rw [flx_len] at oa
  rw [fly_len] at ob
  have hz := z1.lt
  have ia := is_of_own oa (fun x hx => by have := feOk_lm' (ok_red _) x hx; omega)
  have ib := is_of_own ob (fun x hx => by have := feOk_lm' (ok_red _) x hx; omega)
  have qa : ∀ k o s, aa = some ⟨k, o, s⟩ → w1.heap.size ≤ k ∧ k < w2.heap.size := fun k o s e => oa.lt k (by rw [e]; rfl)
  have qb : ∀ k o s, ab = some ⟨k, o, s⟩ → w1.heap.size ≤ k ∧ k < w2.heap.size := fun k o s e => ob.lt k (by rw [e]; rfl)
  have p0 : Arr (w2.alloc (.cells #[.slice none 0 0, .slice none 0 0] 27)) w2.heap.size 27 [.slice none 0 0, .slice none 0 0] := Arr.new w2 [.slice none 0 0, .slice none 0 0] _
  have bV : Below w2.heap.size w2 ((w2.alloc (.cells #[.slice none 0 0, .slice none 0 0] 27)).setRow w2.heap.size #[.slice aa 16 ca, .slice ab 16 cb]) := setRow_below ((Below.refl _ _).alloc (Nat.le_refl _) _) _ _ (Nat.le_refl _)
  have hz2 := (z1.kept hb2).lt
  have BB : Bz6 w ((w2.alloc (.cells #[.slice none 0 0, .slice none 0 0] 27)).setRow w2.heap.size #[.slice aa 16 ca, .slice ab 16 cb]) p w2.heap.size a n c xs aa 16 ca (flx R) ab 16 cb (fly R) :=
    ⟨grown_tr (grown_tr G1 (below_grown hb2 _)) (below_grown bV _), cur_keep (cur_keep k1 (below_grown hb2 none) (by simp)) (below_grown bV none) (by simp), hcode, (z1.kept hb2).kept bV, p0.row [.slice aa 16 ca, .slice ab 16 cb], ia.below bV, ib.below bV, fun k o s e => by have := qa k o s e; omega, fun k o s e => by have := qb k o s e; omega, fun k o s e => by have := qa k o s e; omega, fun k o s e => by have := qb k o s e; omega, Nat.le_refl _, Nat.le_refl _, hp0, hz2⟩
  clear oa ob ia ib qa qb z1 G1 k1 hcur hz hb2 bV hz2 hcode
  go_upto_region 2 with (refine wpList_store_row rfl 27 _ _ rfl w2.heap.size ([Value.slice aa 16 ca, Value.slice ab 16 cb]).toArray rfl rfl 27 _ p0 infoPt rfl (by simp [Value.oneCell']) ?_)
  obtain ⟨X, hX⟩ : ∃ X, X = (w2.alloc (.cells #[.slice none 0 0, .slice none 0 0] 27)).setRow w2.heap.size #[.slice aa 16 ca, .slice ab 16 cb] := ⟨_, rfl⟩
  obtain ⟨E, hE⟩ : ∃ E, E = w2.heap.size := ⟨_, rfl⟩
  rw [← hX] at BB ⊢
  rw [← hE] at BB ⊢
  clear hX hE p0
  go_wp2_with fail
  refine (curOnce p a n c xs 12 _ BB.cur BB.cod (by omega)).mono ?_
  rintro e w3 ⟨x3, rfl, c3, g3⟩
  replace BB := BB.draw c3 g3
  clear c3 g3
  cases x3 with
  | false =>
    have pe := BB.pe
    have pz := BB.pz
    have HF : Hid _ := BB.fin
    clear BB
    go_wp2_with (first
      | (refine wpList_load_row rfl 27 _ rfl E rfl 27 ([Value.slice aa 16 ca, Value.slice ab 16 cb]).toArray (0, 0) _ pe Tryd.underlying27 rfl infoPt ?_)
      | (refine wpList_store_row rfl 27 _ _ rfl w.heap.size ([Value.slice aa 16 ca, Value.slice ab 16 cb]).toArray rfl rfl 27 _ pz infoPt rfl (by simp [Value.oneCell']) ?_))
    exact bodyPost_ret (results_cell_row rfl _ _ w.heap.size 27 #[.slice aa 16 ca, .slice ab 16 cb] (0, 0) _ rfl HF.out.2.2.2 Tryd.underlying27 rfl infoPt) rfl ⟨_, _, _, rfl, HF.out.1, HF.out.2.1, HF.out.2.2.1⟩
  | true =>
    go_wp2_with fail
    refine (curBelow p a n c xs 3 _ BB.cur BB.cod (by omega)).mono ?_
    rintro e w5 ⟨k, rfl, hk0, hk1, _, c5, g5⟩
    replace hk1 := hk1 (by omega)
    replace BB := BB.draw c5 g5
    clear c5 g5
    by_cases e0 : k = 0
    · subst e0
      go_wp2_with fail
      refine (curBent4 p a n c xs _ BB.cur BB.cod).mono ?_
      rintro e w6 ⟨v6, l6, rfl, ⟨a6, n6, c6, rfl, i6, f6, b6⟩, k6, g6⟩
      have hl5 := BB.pe.lt
      have hE5 := BB.hE
      replace BB := BB.draw k6 g6
      have hc0 : w6.cell? ⟨E, 0, none⟩ = some (.slice aa 16 ca) := BB.pe.cell 0
      have hf0 := BB.pe.frozen 0
      replace BB := BB.put1 i6 (fun k o s e => by have := f6 k o s e; omega) (fun k o s e => by have := f6 k o s e; omega) b6
      clear k6 g6 f6 i6
      go_upto_region 9 with fail
      obtain ⟨Y, hY⟩ : ∃ Y, Y = w6.setCell ⟨E, 0, none⟩ (.slice a6 n6 c6) := ⟨_, rfl⟩
      rw [← hY] at BB ⊢
      clear hY hc0 hf0
      have pe := BB.pe
      have pz := BB.pz
      have HF : Hid _ := BB.fin
      clear BB
      go_wp2_with (first
        | (refine wpList_load_row rfl 27 _ rfl E rfl 27 ([Value.slice a6 n6 c6, Value.slice ab 16 cb]).toArray (0, 0) _ pe Tryd.underlying27 rfl infoPt ?_)
        | (refine wpList_store_row rfl 27 _ _ rfl w.heap.size ([Value.slice a6 n6 c6, Value.slice ab 16 cb]).toArray rfl rfl 27 _ pz infoPt rfl (by simp [Value.oneCell']) ?_))
      exact bodyPost_ret (results_cell_row rfl _ _ w.heap.size 27 #[.slice a6 n6 c6, .slice ab 16 cb] (0, 0) _ rfl HF.out.2.2.2 Tryd.underlying27 rfl infoPt) rfl ⟨_, _, _, rfl, HF.out.1, HF.out.2.1, HF.out.2.2.1⟩
    by_cases e1 : k = 1
    · subst e1
      go_wp2_with fail
      refine (curBent4 p a n c xs _ BB.cur BB.cod).mono ?_
      rintro e w6 ⟨v6, l6, rfl, ⟨a6, n6, c6, rfl, i6, f6, b6⟩, k6, g6⟩
      have hl5 := BB.pe.lt
      have hE5 := BB.hE
      replace BB := BB.draw k6 g6
      have hc0 : w6.cell? ⟨E, 1, none⟩ = some (.slice ab 16 cb) := BB.pe.cell 1
      have hf0 := BB.pe.frozen 1
      replace BB := BB.put2 i6 (fun k o s e => by have := f6 k o s e; omega) (fun k o s e => by have := f6 k o s e; omega) b6
      clear k6 g6 f6 i6 e0
      go_upto_region 9 with fail
      obtain ⟨Y, hY⟩ : ∃ Y, Y = w6.setCell ⟨E, 1, none⟩ (.slice a6 n6 c6) := ⟨_, rfl⟩
      rw [← hY] at BB ⊢
      clear hY hc0 hf0
      have pe := BB.pe
      have pz := BB.pz
      have HF : Hid _ := BB.fin
      clear BB
      go_wp2_with (first
        | (refine wpList_load_row rfl 27 _ rfl E rfl 27 ([Value.slice aa 16 ca, Value.slice a6 n6 c6]).toArray (0, 0) _ pe Tryd.underlying27 rfl infoPt ?_)
        | (refine wpList_store_row rfl 27 _ _ rfl w.heap.size ([Value.slice aa 16 ca, Value.slice a6 n6 c6]).toArray rfl rfl 27 _ pz infoPt rfl (by simp [Value.oneCell']) ?_))
      exact bodyPost_ret (results_cell_row rfl _ _ w.heap.size 27 #[.slice aa 16 ca, .slice a6 n6 c6] (0, 0) _ rfl HF.out.2.2.2 Tryd.underlying27 rfl infoPt) rfl ⟨_, _, _, rfl, HF.out.1, HF.out.2.1, HF.out.2.2.1⟩
    · obtain ⟨kb, ko, hab⟩ : ∃ kb ko, aa = some ⟨kb, ko, none⟩ := by
        rcases BB.i1.2.2.2.2 with h | ⟨kb, ko, h, _⟩
        · omega
        · exact ⟨kb, ko, h⟩
      subst hab
      have hcap := BB.i1.2.2.1
      have hc0 : w5.cell? ⟨E, 0, none⟩ = some (.slice (some ⟨kb, ko, none⟩) 16 ca) := BB.pe.cell 0
      have hf0 := BB.pe.frozen 0
      have q1 := BB.f1 kb ko none rfl
      have q2 := BB.e1 kb ko none rfl
      have i6 := BB.i1.dropP (m := 1) (by omega)
      replace BB := BB.put1 i6 (fun k o s e => by cases e; exact q1) (fun k o s e => by cases e; exact q2) (by omega)
      have hca : ¬ (ca = 1) := by omega
      have hk3 : ¬ (k = 0) ∧ ¬ (k = 1) := ⟨e0, e1⟩
      clear i6 q1 q2
      go_upto_region 9 with fail
      obtain ⟨Y, hY⟩ : ∃ Y, Y = w5.setCell ⟨E, 0, none⟩ (.slice (some ⟨kb, ko + 1, none⟩) 15 (ca - 1)) := ⟨_, rfl⟩
      rw [← hY] at BB ⊢
      clear hY hc0 hf0
      have pe := BB.pe
      have pz := BB.pz
      have HF : Hid _ := BB.fin
      clear BB
      go_wp2_with (first
        | (refine wpList_load_row rfl 27 _ rfl E rfl 27 ([Value.slice (some ⟨kb, ko + 1, none⟩) 15 (ca - 1), Value.slice ab 16 cb]).toArray (0, 0) _ pe Tryd.underlying27 rfl infoPt ?_)
        | (refine wpList_store_row rfl 27 _ _ rfl w.heap.size ([Value.slice (some ⟨kb, ko + 1, none⟩) 15 (ca - 1), Value.slice ab 16 cb]).toArray rfl rfl 27 _ pz infoPt rfl (by simp [Value.oneCell']) ?_))
      exact bodyPost_ret (results_cell_row rfl _ _ w.heap.size 27 #[.slice (some ⟨kb, ko + 1, none⟩) 15 (ca - 1), .slice ab 16 cb] (0, 0) _ rfl HF.out.2.2.2 Tryd.underlying27 rfl infoPt) rfl ⟨_, _, _, rfl, HF.out.1, HF.out.2.1, HF.out.2.2.1⟩
end Go.Proofs.YtoblilngppjmhaaDoor
namespace Go.Proofs.YtoblilngppjmhaaDoor
open Go.RowKit
set_option maxRecDepth 100000

end Go.Proofs.YtoblilngppjmhaaDoor
namespace Go.Proofs.YtoblilngppjmhaaDoor
open Go.RowKit
set_option maxRecDepth 100000

/-- A block's row is written: what lies elsewhere stays. -/
theorem row_grown (w : World) (b : Nat) (cs : Array Value) : w.grownBy (w.setRow b cs) (some b) :=
  have hq := setRow_below (B := b) (w := w) (w' := w) (Below.refl _ _) b cs (Nat.le_refl _)
  ⟨hq.os, hq.tape, hq.output, hq.size, fun k _ hne => setRow_other w b k _ (fun e => hne (by rw [e]))⟩
theorem arr_grown {X Y : World} {b k : Nat} {t : TypeId} {cs : List Value} (h : Arr X k t cs) (hg : X.grownBy Y (some b)) (hne : k ≠ b) : Arr Y k t cs := by
  have := hg.block k h.lt (fun e => hne (Option.some.inj e))
  unfold Arr at h ⊢
  rw [← this] at h
  exact h
theorem results_two' {P : Program} {fn : Func} {p q : Tmp} {ty tz : TypeId} {w : World} {g k : Nat} {t s : TypeId} {cs ds : List Value} {d d' : TypeDesc} {tmps : Array Value} (h : fn.results = #[.cell p ty, .cell q tz])
    (hp : tmps.getD p undef = .pointer (some ⟨g, 0, none⟩)) (hq : tmps.getD q undef = .pointer (some ⟨k, 0, none⟩)) (hg : Arr w g t cs) (hk : Arr w k s ds) (hu : P.underlying ty = some d) (hd : (match d with | .struct _ | .array _ _ => true | _ => false) = true) (hu' : P.underlying tz = some d') (hd' : (match d' with | .struct _ | .array _ _ => true | _ => false) = true) (hi : (P.info? ty).map (·.size) = some cs.length) (hj : (P.info? tz).map (·.size) = some ds.length) :
    (results fn tmps).run P w = .ok (.tuple #[.agg cs.toArray, .agg ds.toArray]) w := by
  have hl := run_loadVar_row (P := P) w g t ty cs.toArray (0, 0) d hg hu hd (by simpa using hi)
  have hm := run_loadVar_row (P := P) w k s tz ds.toArray (0, 0) d' hk hu' hd' (by simpa using hj)
  have hp' : tmps[p]?.getD undef = .pointer (some ⟨g, 0, none⟩) := by simpa using hp
  have hq' : tmps[q]?.getD undef = .pointer (some ⟨k, 0, none⟩) := by simpa using hq
  simp only [results, h]
  simp [Sem.run_bind, hp', hq', asAddr, Result.andThen, hl, hm]

end Go.Proofs.YtoblilngppjmhaaDoor
namespace Go.Proofs.YtoblilngppjmhaaDoor
open Go.RowKit
set_option maxRecDepth 100000

set_option maxHeartbeats 1000000 in
theorem specOrder (w : World) :
    Calls Tryd.prog 117 #[] w fun e w' => e = .returned (.agg (I64 OL).toArray) ∧ Below w.heap.size w w' := by
  obtain ⟨W, hW⟩ : ∃ W, W = w.alloc (.cells (I64 Z16).toArray 82) := ⟨_, rfl⟩
  have g0 : Arr (w.alloc (.cells #[.int .i64 0, .int .i64 0, .int .i64 0, .int .i64 0, .int .i64 0, .int .i64 0, .int .i64 0, .int .i64 0, .int .i64 0, .int .i64 0, .int .i64 0, .int .i64 0, .int .i64 0, .int .i64 0, .int .i64 0, .int .i64 0] 82)) w.heap.size 82 (I64 Z16) := Arr.new w (I64 Z16) _
  have gB : Below w.heap.size w (w.alloc (.cells #[.int .i64 0, .int .i64 0, .int .i64 0, .int .i64 0, .int .i64 0, .int .i64 0, .int .i64 0, .int .i64 0, .int .i64 0, .int .i64 0, .int .i64 0, .int .i64 0, .int .i64 0, .int .i64 0, .int .i64 0, .int .i64 0] 82)) := (Below.refl _ _).alloc (Nat.le_refl _) _
  have g1 := g0.row (I64 OL)
  have gB1 := setRow_below gB w.heap.size (I64 OL).toArray (Nat.le_refl _)
  go_enter Tryd.func117, Tryd.ntmps117
  go_wp2_with (refine wpList_store_row rfl 82 _ _ rfl w.heap.size (I64 OL).toArray rfl rfl 82 _ g0 infoE rfl (by simp [OL, Value.oneCell']) ?_)
  exact bodyPost_ret (results_cell_row rfl _ _ w.heap.size 82 (I64 OL).toArray (0, 0) _ rfl g1 Tryd.underlying82 rfl infoE) rfl ⟨rfl, gB1⟩
theorem scOk_no {xs : List Int} {k : Nat} (h : ¬ (0 ≤ xs.getD k 0 ∧ xs.getD k 0 < 65536)) : scOk xs = false := by
  cases e : scOk xs with
  | false => rfl
  | true =>
    have := ((scOk_iff xs).1 e).2.1
    exact absurd (gD_lm this k) h
/-- An array of sixteen, through whatever keeps what is there. -/
structure Ek5 (w W : World) (g : Nat) (l : List Int) : Prop where
  fr : Below w.heap.size w W
  ar : Arr W g 82 (I64 l)
theorem Ek5.go {w A B : World} {g : Nat} {l : List Int} (h : Ek5 w A g l) (hb : Below A.heap.size A B) : Ek5 w B g l := ⟨h.fr.trans (hb.mono h.fr.size), h.ar.kept hb⟩
theorem Ek5.all {w W : World} {g : Nat} {l : List Int} (h : Ek5 w W g l) : W.rangeAt g 0 (I64 l) := arr_range h.ar

set_option maxHeartbeats 2000000 in
theorem specScIsOk (a : Option Addr) (n c : Nat) (xs : List Int) (w : World) (hx : Is w a n c xs) :
    Calls Tryd.prog 70 #[.slice a n c] w fun e w' => e = .returned (.bool (scOk xs)) ∧ Below w.heap.size w w' := by
  obtain ⟨_, hl, hc, hr, hx⟩ := hx
  by_cases hn : n = 16
  rotate_left
  · have hf : scOk xs = false := by unfold scOk; simp [show ¬ xs.length = 16 by omega]
    rw [hf]
    have hn' : ((n : Int) != 16) = true := by simp; omega
    have hn'' : ¬ ((n : Int) = 16) := by omega
    clear hf hx hr
    go_enter Tryd.func70, Tryd.ntmps70
    go_wp2
    go_ret
    exact ⟨rfl, Below.refl _ _⟩
  subst hn
  rcases hx with hx | ⟨b, o, rfl, hbs, hcell⟩
  · omega
  obtain ⟨r, hrr⟩ : ∃ r, r = scOk xs := ⟨_, rfl⟩
  rw [← hrr]
  have HRR : Hid _ := hrr
  clear hrr
  obtain ⟨W, hW⟩ : ∃ W, W = w.alloc (.cells (I64 Z16).toArray 82) := ⟨_, rfl⟩
  have g0 : Arr W w.heap.size 82 (I64 (xs.take 0 ++ Z16.drop 0)) := by rw [hW]; exact Arr.new w (I64 Z16) _
  have gB : Below w.heap.size w W := by rw [hW]; exact (Below.refl _ _).alloc (Nat.le_refl _) _
  go_enter Tryd.func70, Tryd.ntmps70
  go_wp2
  go_loopw [4] (fun i wr => ∃ k : Nat, k ≤ 16 ∧ i = .int .i64 k ∧ (∀ j, j < k → 0 ≤ xs.getD j 0 ∧ xs.getD j 0 < 65536) ∧ Arr wr w.heap.size 82 (I64 (xs.take k ++ Z16.drop k)) ∧ Below w.heap.size w wr) (fun i _ => 16 - (intOf i).toNat)
  case atStart => exact ⟨0, by omega, rfl, fun j hj => by omega, hW ▸ g0, hW ▸ gB⟩
  case round =>
    clear g0 gB hW
    obtain ⟨k, hk, rfl, hin, g0, gB⟩ := hrel
    have hfl : (xs.take k).length = k := by simp; omega
    by_cases hlt : k < 16
    · obtain ⟨x, hx⟩ : ∃ x, x = xs.getD k 0 := ⟨_, rfl⟩
      have hck : wr.cell? ⟨b, o + k, none⟩ = some (.int .i64 x) := by rw [hx]; exact (gB.cell (p := ⟨b, o + k, none⟩) hbs).trans (hcell k hlt)
      have hk16 : (k : Int) < 16 := by omega
      have hk0 : (0 : Int) ≤ (k : Int) := by omega
      by_cases hgood : 0 ≤ x ∧ x < 65536
      · obtain ⟨hx0, hx1⟩ := hgood
        have hn0 : ¬ x < 0 := by omega
        have hn1 : ¬ (65535 : Int) < x := by omega
        obtain ⟨u, hu⟩ : ∃ u, wr.cell? ⟨w.heap.size, k, none⟩ = some u := by
          rw [g0.cell k]
          exact ⟨_, List.getElem?_eq_getElem (by simp [hl]; omega)⟩
        have hfz := g0.frozen k
        have hts := take_app xs k (by omega)
        have g0' := g0.set k (.int .i64 x)
        rw [set_app hfl (show k < Z16.length from hlt), hx, ← hts, ← hx] at g0'
        have gB' := gB.setCell (p := ⟨w.heap.size, k, none⟩) (Nat.le_refl _) (.int .i64 x)
        have hin' : ∀ j, j < k + 1 → 0 ≤ xs.getD j 0 ∧ xs.getD j 0 < 65536 := by
          intro j hj
          by_cases e : j = k
          · subst e; rw [← hx]; exact ⟨hx0, hx1⟩
          · exact hin j (by omega)
        have H0 : Hid _ := g0'
        have HB : Hid _ := gB'
        have HI : Hid _ := hin'
        clear g0' gB' hin' g0 gB hin hx hts hcell hr
        go_wp2
        go_roundw
        case rel => exact ⟨k + 1, by omega, by go_num, HI.out, H0.out, HB.out⟩
        case measure => simp [intOf]; omega
      · have hf : r = false := by rw [HRR.out]; exact scOk_no (k := k) (by rw [← hx]; exact hgood)
        clear hin hx hcell hr g0
        by_cases hx0 : x < 0
        · go_wp2
          go_ret
          exact ⟨by first | rfl | (rw [hf]; rfl), gB⟩
        · have hx1 : (65535 : Int) < x := by omega
          go_wp2
          go_ret
          exact ⟨by first | rfl | (rw [hf]; rfl), gB⟩
    · obtain rfl : k = 16 := by omega
      rw [List.take_of_length_le (by omega), show Z16.drop 16 = [] from rfl, List.append_nil] at g0
      have hm := lm_of hl hin
      have hrv : decide (val xs < qO) = r := by
        rw [HRR.out]
        by_cases hv : val xs < qO
        · rw [(scOk_iff xs).2 ⟨hl, hm, hv⟩]; simp [hv]
        · cases e : scOk xs with
          | false => simp [hv]
          | true => exact absurd ((scOk_iff xs).1 e).2.2 hv
      have HLS : Hid (∀ Z, Calls Tryd.prog 119 #[.agg (I64 xs).toArray, .agg (I64 OL).toArray] Z fun e w' => e = .returned (.bool r) ∧ Below Z.heap.size Z w') := by
        unfold Hid
        intro Z
        have := specLess xs OL Z hl OL_len hm OL_lm
        rw [OL_val, hrv] at this
        exact this
      have EK : Ek5 w wr.drew w.heap.size xs := ⟨gB.drew, g0.drew⟩
      have hu65 : Tryd.prog.underlying 82 = some (.array 16 3) := Tryd.underlying82
      have hi65 : (Tryd.prog.info? 82).map (·.size) = some (I64 xs).length := by simpa [hl] using infoE
      clear hin g0 gB hcell hr hfl hrv hm
      go_wp2
      go_region_held3 (fun W => W.rangeAt w.heap.size 0 (I64 xs))
        (exact EK.all)
        ((first
          | (go_at_call 119; refine (HLS.out _).mono ?_; rintro e w2 ⟨rfl, hb2⟩; replace EK := EK.go hb2)
          | (go_at_call 117; refine (specOrder _).mono ?_; rintro e w1 ⟨rfl, hb1⟩; replace EK := EK.go hb1)))
      go_wp2
      go_ret
      exact ⟨rfl, EK.fr⟩

set_option maxHeartbeats 1000000 in
theorem specScOk (a : Option Addr) (n c : Nat) (xs : List Int) (w : World) (hx : Is w a n c xs) :
    Calls Tryd.prog 24 #[.agg #[.slice a n c]] w fun e w' => e = .returned (.bool (scOk xs)) ∧ Below w.heap.size w w' := by
  obtain ⟨W, hW⟩ : ∃ W, W = w.alloc (.cells #[.slice a n c] 37) := ⟨_, rfl⟩
  have gB : Below w.heap.size w W := by rw [hW]; exact (Below.refl _ _).alloc (Nat.le_refl _) _
  go_enter Tryd.func24, Tryd.ntmps24
  go_wp2_with fail
  rw [← hW]
  refine (specScIsOk a n c xs _ (hx.below gB)).mono ?_
  rintro e w1 ⟨rfl, hb1⟩
  have hB := gB.trans (hb1.mono gB.size)
  clear hW gB hb1 hx
  go_wp2
  go_ret
  exact ⟨rfl, hB⟩
end Go.Proofs.YtoblilngppjmhaaDoor

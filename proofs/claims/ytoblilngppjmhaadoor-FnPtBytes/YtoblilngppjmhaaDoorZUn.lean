/-
  What is proved here: the contract of the specification's l6bent: a draw of two lists that may be a point, from a cursor over bytes; the contract of the specification's DrawPtBytes; a slice of bytes that is handed over holds at most as many bytes as memory bears.
-/
import Derived.Test.YtoblilngppjmhaaDoorZHdq
import Derived.Test.YtoblilngppjmhaaDoorZUg
import Derived.Test.YtoblilngppjmhaaDoorZUi
import Derived.Test.YtoblilngppjmhaaDoorZJa
import Derived.Test.YtoblilngppjmhaaDoorZHf
import Derived.Test.YtoblilngppjmhaaDoorProg
import Derived.SizedLaws
import Derived.Lib.SmallJoins
namespace Go.Proofs.YtoblilngppjmhaaDoor
open Go.RowKit
set_option maxRecDepth 100000

theorem Is.dropP {w : World} {b o : Nat} {n c m : Nat} {xs : List Int} (h : Is w (some ⟨b, o, none⟩) n c xs) (hm : m ≤ n) : Is w (some ⟨b, o + m, none⟩) (n - m) (c - m) (xs.drop m) := by
  obtain ⟨h0, h1, h2, h3, h4⟩ := h
  refine ⟨(fun h => by cases h), by simp; omega, by omega, fun x hx => h3 x (List.mem_of_mem_drop hx), ?_⟩
  by_cases hz : n - m = 0
  · exact .inl hz
  rcases h4 with h4 | ⟨b', o', ha, hlt, hc⟩
  · exact .inl (by omega)
  · cases ha
    refine .inr ⟨b, o + m, rfl, hlt, fun j hj => ?_⟩
    have := hc (m + j) (by omega)
    rw [show o + m + j = o + (m + j) by omega, this]
    simp [List.getD, List.getElem?_drop]

/-- What a draw of a point answers: two lists of ints, in memory of its own. -/
def PtV (w w' : World) (v : Value) (xs ys : List Int) : Prop := ∃ a n c b m d, v = .agg #[.slice a n c, .slice b m d] ∧ Is w' a n c xs ∧ Is w' b m d ys ∧ (∀ k o s, a = some ⟨k, o, s⟩ → w.heap.size < k) ∧ (∀ k o s, b = some ⟨k, o, s⟩ → w.heap.size < k) ∧ n ≤ 16 ∧ m ≤ 16
/-- Where such a draw stands: the cursor, the code, the result's cell, the point's cell and its lists. -/
structure Bz6 (w X : World) (p E : Nat) (a : Option Addr) (n c : Nat) (xs : List Int) (a1 : Option Addr) (n1 c1 : Nat) (l1 : List Int) (a2 : Option Addr) (n2 c2 : Nat) (l2 : List Int) : Prop where
  gr : w.grownBy X (some p)
  cur : Cur X p a n c
  cod0 : Coded w p a n c xs
  pz : Arr X w.heap.size 27 [.slice none 0 0, .slice none 0 0]
  pe : Arr X E 27 [.slice a1 n1 c1, .slice a2 n2 c2]
  i1 : Is X a1 n1 c1 l1
  i2 : Is X a2 n2 c2 l2
  f1 : ∀ k o s, a1 = some ⟨k, o, s⟩ → w.heap.size < k
  f2 : ∀ k o s, a2 = some ⟨k, o, s⟩ → w.heap.size < k
  e1 : ∀ k o s, a1 = some ⟨k, o, s⟩ → k ≠ E
  e2 : ∀ k o s, a2 = some ⟨k, o, s⟩ → k ≠ E
  b1 : n1 ≤ 16
  b2 : n2 ≤ 16
  hp : p < w.heap.size
  hE : w.heap.size < E
section
variable {w X Y : World} {p E : Nat} {a : Option Addr} {n c : Nat} {xs : List Int} {a1 : Option Addr} {n1 c1 : Nat} {l1 : List Int} {a2 : Option Addr} {n2 c2 : Nat} {l2 : List Int}
theorem Bz6.cod (h : Bz6 w X p E a n c xs a1 n1 c1 l1 a2 n2 c2 l2) : Coded X p a n c xs := h.cod0.grown h.gr
theorem Bz6.draw (h : Bz6 w X p E a n c xs a1 n1 c1 l1 a2 n2 c2 l2) (hc : Cur Y p a n c) (hg : X.grownBy Y (some p)) : Bz6 w Y p E a n c xs a1 n1 c1 l1 a2 n2 c2 l2 :=
  have h1 := h.hp
  have h2 := h.hE
  ⟨grown_tr h.gr hg, hc, h.cod0, arr_cur h.pz hg (by omega), arr_cur h.pe hg (by omega), is_cur h.i1 hg h.f1 (by omega), is_cur h.i2 hg h.f2 (by omega), h.f1, h.f2, h.e1, h.e2, h.b1, h.b2, h.hp, h.hE⟩
/-- The first list is another. -/
theorem Bz6.put1 (h : Bz6 w X p E a n c xs a1 n1 c1 l1 a2 n2 c2 l2) {a3 : Option Addr} {n3 c3 : Nat} {l3 : List Int} (i3 : Is X a3 n3 c3 l3) (f3 : ∀ k o s, a3 = some ⟨k, o, s⟩ → w.heap.size < k) (e3 : ∀ k o s, a3 = some ⟨k, o, s⟩ → k ≠ E) (b3 : n3 ≤ 16) : Bz6 w (X.setCell ⟨E, 0, none⟩ (.slice a3 n3 c3)) p E a n c xs a3 n3 c3 l3 a2 n2 c2 l2 := by
  have h1 := h.hp
  have h2 := h.hE
  have gs := cur_grown2 X E (.slice a3 n3 c3) 0
  exact ⟨grown_into h.gr gs (by intro k hk; cases hk; exact .inl (by omega)), cur_keep h.cur gs (fun e => by have := Option.some.inj e; omega), h.cod0, h.pz.other _ _ (by show w.heap.size ≠ E; omega), h.pe.set 0 _, is_far i3 E 0 _ e3, is_far h.i2 E 0 _ h.e2, f3, h.f2, e3, h.e2, b3, h.b2, h.hp, h.hE⟩
theorem Bz6.put2 (h : Bz6 w X p E a n c xs a1 n1 c1 l1 a2 n2 c2 l2) {a3 : Option Addr} {n3 c3 : Nat} {l3 : List Int} (i3 : Is X a3 n3 c3 l3) (f3 : ∀ k o s, a3 = some ⟨k, o, s⟩ → w.heap.size < k) (e3 : ∀ k o s, a3 = some ⟨k, o, s⟩ → k ≠ E) (b3 : n3 ≤ 16) : Bz6 w (X.setCell ⟨E, 1, none⟩ (.slice a3 n3 c3)) p E a n c xs a1 n1 c1 l1 a3 n3 c3 l3 := by
  have h1 := h.hp
  have h2 := h.hE
  have gs := cur_grown2 X E (.slice a3 n3 c3) 1
  exact ⟨grown_into h.gr gs (by intro k hk; cases hk; exact .inl (by omega)), cur_keep h.cur gs (fun e => by have := Option.some.inj e; omega), h.cod0, h.pz.other _ _ (by show w.heap.size ≠ E; omega), h.pe.set 1 _, is_far h.i1 E 1 _ h.e1, is_far i3 E 1 _ e3, h.f1, f3, h.e1, e3, h.b1, b3, h.hp, h.hE⟩
/-- The point's cell is laid into the result's. -/
theorem Bz6.fin (h : Bz6 w X p E a n c xs a1 n1 c1 l1 a2 n2 c2 l2) : PtV w (X.setRow w.heap.size #[.slice a1 n1 c1, .slice a2 n2 c2]) (.agg #[.slice a1 n1 c1, .slice a2 n2 c2]) l1 l2 ∧ Cur (X.setRow w.heap.size #[.slice a1 n1 c1, .slice a2 n2 c2]) p a n c ∧ w.grownBy (X.setRow w.heap.size #[.slice a1 n1 c1, .slice a2 n2 c2]) (some p) ∧ Arr (X.setRow w.heap.size #[.slice a1 n1 c1, .slice a2 n2 c2]) w.heap.size 27 [.slice a1 n1 c1, .slice a2 n2 c2] := by
  have h1 := h.hp
  have hb := setRow_below (B := w.heap.size) (w := X) (w' := X) (Below.refl _ _) w.heap.size #[.slice a1 n1 c1, .slice a2 n2 c2] (Nat.le_refl _)
  have hg : X.grownBy (X.setRow w.heap.size #[.slice a1 n1 c1, .slice a2 n2 c2]) (some w.heap.size) := ⟨hb.os, hb.tape, hb.output, hb.size, fun k hk hne => setRow_other X w.heap.size k _ (fun e => hne (by rw [e]))⟩
  exact ⟨⟨a1, n1, c1, a2, n2, c2, rfl, is_cur h.i1 hg h.f1 (Nat.le_refl _), is_cur h.i2 hg h.f2 (Nat.le_refl _), h.f1, h.f2, h.b1, h.b2⟩, cur_keep h.cur hg (by intro e; have := Option.some.inj e; omega), grown_into h.gr hg (by intro k hk; cases hk; exact .inl (Nat.le_refl _)), h.pz.row [.slice a1 n1 c1, .slice a2 n2 c2]⟩
end

set_option maxHeartbeats 4000000 in
theorem curBent6 (p : Nat) (a : Option Addr) (n c : Nat) (xs : List Int) (w : World) (hcur : Cur w p a n c) (hcode : Coded w p a n c xs) :
    Calls Tryd.prog 54 #[.pointer (some ⟨p, 0, none⟩)] w fun e w' => ∃ v l1 l2, e = .returned v ∧ PtV w w' v l1 l2 ∧ Cur w' p a n c ∧ w.grownBy w' (some p) := by
  have hp0 := cur_lt hcur
  obtain ⟨W, hW⟩ : ∃ W, W = w.alloc (.cells #[.slice none 0 0, .slice none 0 0] 27) := ⟨_, rfl⟩
  have g0 : w.grownBy W (some p) := by rw [hW]; exact grown_alloc _ _ _
  have c0 : Cur W p a n c := by rw [hW]; exact cur_keep hcur (grown_alloc _ _ none) (by simp)
  have z0 : Arr W w.heap.size 27 [.slice none 0 0, .slice none 0 0] := by rw [hW]; exact Arr.new _ _ _
  go_enter Tryd.func54, Tryd.ntmps54
  go_upto_region 1 with fail
  rw [← hW]
  clear hW
  go_wp2_with fail
  refine (curDraw6 p a n c xs _ c0 (hcode.grown g0)).mono ?_
  rintro e w1 ⟨R, rfl, hok, k1, g1⟩
  have G1 := grown_tr g0 g1
  have z1 := arr_cur z0 g1 (by omega)
  clear g0 c0 z0 g1
  go_wp2_with fail
  refine (spec6out R _ hok).mono ?_
  rintro e w2 ⟨v, rfl, hpt, hb2⟩
  obtain ⟨aa, ca, ab, cb, rfl, oa, ob, _⟩ := hpt
  rw [flx_len, fly_len]
  rw [flx_len] at oa
  rw [fly_len] at ob
  have hz := z1.lt
  have ia := is_of_own oa (fun x hx => by have := feOk_lm' (ok_red _) x hx; omega)
  have ib := is_of_own ob (fun x hx => by have := feOk_lm' (ok_red _) x hx; omega)
  have qa : ∀ k o s, aa = some ⟨k, o, s⟩ → w1.heap.size ≤ k ∧ k < w2.heap.size := fun k o s e => oa.lt k (by rw [e]; rfl)
  have qb : ∀ k o s, ab = some ⟨k, o, s⟩ → w1.heap.size ≤ k ∧ k < w2.heap.size := fun k o s e => ob.lt k (by rw [e]; rfl)
  have p0 : Arr (w2.alloc (.cells #[.slice none 0 0, .slice none 0 0] 27)) w2.heap.size 27 [.slice none 0 0, .slice none 0 0] := Arr.new w2 [.slice none 0 0, .slice none 0 0] _
  have bV : Below w2.heap.size w2 ((w2.alloc (.cells #[.slice none 0 0, .slice none 0 0] 27)).setRow w2.heap.size #[.slice aa 16 ca, .slice ab 16 cb]) := setRow_below ((Below.refl _ _).alloc (Nat.le_refl _) _) _ _ (Nat.le_refl _)
  have hz2 := (z1.kept hb2).lt
  have BB : Bz6 w ((w2.alloc (.cells #[.slice none 0 0, .slice none 0 0] 27)).setRow w2.heap.size #[.slice aa 16 ca, .slice ab 16 cb]) p w2.heap.size a n c xs aa 16 ca (flx R) ab 16 cb (fly R) :=
    ⟨grown_tr (grown_tr G1 (below_grown hb2 _)) (below_grown bV _), cur_keep (cur_keep k1 (below_grown hb2 none) (by simp)) (below_grown bV none) (by simp), hcode, (z1.kept hb2).kept bV, p0.row [.slice aa 16 ca, .slice ab 16 cb], ia.below bV, ib.below bV, fun k o s e => by have := qa k o s e; omega, fun k o s e => by have := qb k o s e; omega, fun k o s e => by have := qa k o s e; omega, fun k o s e => by have := qb k o s e; omega, Nat.le_refl _, Nat.le_refl _, hp0, hz2⟩
  clear oa ob ia ib qa qb z1 G1 k1 hcur hz hb2 bV hz2 hcode
  go_upto_region 2 with (refine wpList_store_row rfl 27 _ _ rfl w2.heap.size ([Value.slice aa 16 ca, Value.slice ab 16 cb]).toArray rfl rfl 27 _ p0 infoPt rfl (by simp [Value.oneCell']) ?_)
  obtain ⟨X, hX⟩ : ∃ X, X = (w2.alloc (.cells #[.slice none 0 0, .slice none 0 0] 27)).setRow w2.heap.size #[.slice aa 16 ca, .slice ab 16 cb] := ⟨_, rfl⟩
  obtain ⟨E, hE⟩ : ∃ E, E = w2.heap.size := ⟨_, rfl⟩
  rw [← hX] at BB ⊢
  rw [← hE] at BB ⊢
  clear hX hE p0
  go_wp2_with fail
  refine (curOnce p a n c xs 12 _ BB.cur BB.cod (by omega)).mono ?_
  rintro e w3 ⟨x3, rfl, c3, g3⟩
  replace BB := BB.draw c3 g3
  clear c3 g3
  cases x3 with
  | false =>
    have pe := BB.pe
    have pz := BB.pz
    have HF : Hid _ := BB.fin
    clear BB
    go_wp2_with (first
      | (refine wpList_load_row rfl 27 _ rfl E rfl 27 ([Value.slice aa 16 ca, Value.slice ab 16 cb]).toArray (0, 0) _ pe Tryd.underlying27 rfl infoPt ?_)
      | (refine wpList_store_row rfl 27 _ _ rfl w.heap.size ([Value.slice aa 16 ca, Value.slice ab 16 cb]).toArray rfl rfl 27 _ pz infoPt rfl (by simp [Value.oneCell']) ?_))
    exact bodyPost_ret (results_cell_row rfl _ _ w.heap.size 27 #[.slice aa 16 ca, .slice ab 16 cb] (0, 0) _ rfl HF.out.2.2.2 Tryd.underlying27 rfl infoPt) rfl ⟨_, _, _, rfl, HF.out.1, HF.out.2.1, HF.out.2.2.1⟩
  | true =>
    go_wp2_with fail
    refine (curBelow p a n c xs 3 _ BB.cur BB.cod (by omega)).mono ?_
    rintro e w5 ⟨k, rfl, hk0, hk1, _, c5, g5⟩
    replace hk1 := hk1 (by omega)
    replace BB := BB.draw c5 g5
    clear c5 g5
    by_cases e0 : k = 0
    · subst e0
      go_wp2_with fail
      refine (curBent4 p a n c xs _ BB.cur BB.cod).mono ?_
      rintro e w6 ⟨v6, l6, rfl, ⟨a6, n6, c6, rfl, i6, f6, b6⟩, k6, g6⟩
      have hl5 := BB.pe.lt
      have hE5 := BB.hE
      replace BB := BB.draw k6 g6
      have hc0 : w6.cell? ⟨E, 0, none⟩ = some (.slice aa 16 ca) := BB.pe.cell 0
      have hf0 := BB.pe.frozen 0
      replace BB := BB.put1 i6 (fun k o s e => by have := f6 k o s e; omega) (fun k o s e => by have := f6 k o s e; omega) b6
      clear k6 g6 f6 i6
      go_upto_region 9 with fail
      obtain ⟨Y, hY⟩ : ∃ Y, Y = w6.setCell ⟨E, 0, none⟩ (.slice a6 n6 c6) := ⟨_, rfl⟩
      rw [← hY] at BB ⊢
      clear hY hc0 hf0
      have pe := BB.pe
      have pz := BB.pz
      have HF : Hid _ := BB.fin
      clear BB
      go_wp2_with (first
        | (refine wpList_load_row rfl 27 _ rfl E rfl 27 ([Value.slice a6 n6 c6, Value.slice ab 16 cb]).toArray (0, 0) _ pe Tryd.underlying27 rfl infoPt ?_)
        | (refine wpList_store_row rfl 27 _ _ rfl w.heap.size ([Value.slice a6 n6 c6, Value.slice ab 16 cb]).toArray rfl rfl 27 _ pz infoPt rfl (by simp [Value.oneCell']) ?_))
      exact bodyPost_ret (results_cell_row rfl _ _ w.heap.size 27 #[.slice a6 n6 c6, .slice ab 16 cb] (0, 0) _ rfl HF.out.2.2.2 Tryd.underlying27 rfl infoPt) rfl ⟨_, _, _, rfl, HF.out.1, HF.out.2.1, HF.out.2.2.1⟩
    by_cases e1 : k = 1
    · subst e1
      go_wp2_with fail
      refine (curBent4 p a n c xs _ BB.cur BB.cod).mono ?_
      rintro e w6 ⟨v6, l6, rfl, ⟨a6, n6, c6, rfl, i6, f6, b6⟩, k6, g6⟩
      have hl5 := BB.pe.lt
      have hE5 := BB.hE
      replace BB := BB.draw k6 g6
      have hc0 : w6.cell? ⟨E, 1, none⟩ = some (.slice ab 16 cb) := BB.pe.cell 1
      have hf0 := BB.pe.frozen 1
      replace BB := BB.put2 i6 (fun k o s e => by have := f6 k o s e; omega) (fun k o s e => by have := f6 k o s e; omega) b6
      clear k6 g6 f6 i6 e0
      go_upto_region 9 with fail
      obtain ⟨Y, hY⟩ : ∃ Y, Y = w6.setCell ⟨E, 1, none⟩ (.slice a6 n6 c6) := ⟨_, rfl⟩
      rw [← hY] at BB ⊢
      clear hY hc0 hf0
      have pe := BB.pe
      have pz := BB.pz
      have HF : Hid _ := BB.fin
      clear BB
      go_wp2_with (first
        | (refine wpList_load_row rfl 27 _ rfl E rfl 27 ([Value.slice aa 16 ca, Value.slice a6 n6 c6]).toArray (0, 0) _ pe Tryd.underlying27 rfl infoPt ?_)
        | (refine wpList_store_row rfl 27 _ _ rfl w.heap.size ([Value.slice aa 16 ca, Value.slice a6 n6 c6]).toArray rfl rfl 27 _ pz infoPt rfl (by simp [Value.oneCell']) ?_))
      exact bodyPost_ret (results_cell_row rfl _ _ w.heap.size 27 #[.slice aa 16 ca, .slice a6 n6 c6] (0, 0) _ rfl HF.out.2.2.2 Tryd.underlying27 rfl infoPt) rfl ⟨_, _, _, rfl, HF.out.1, HF.out.2.1, HF.out.2.2.1⟩
    · obtain ⟨kb, ko, hab⟩ : ∃ kb ko, aa = some ⟨kb, ko, none⟩ := by
        rcases BB.i1.2.2.2.2 with h | ⟨kb, ko, h, _⟩
        · omega
        · exact ⟨kb, ko, h⟩
      subst hab
      have hcap := BB.i1.2.2.1
      have hc0 : w5.cell? ⟨E, 0, none⟩ = some (.slice (some ⟨kb, ko, none⟩) 16 ca) := BB.pe.cell 0
      have hf0 := BB.pe.frozen 0
      have q1 := BB.f1 kb ko none rfl
      have q2 := BB.e1 kb ko none rfl
      have i6 := BB.i1.dropP (m := 1) (by omega)
      replace BB := BB.put1 i6 (fun k o s e => by cases e; exact q1) (fun k o s e => by cases e; exact q2) (by omega)
      have hca : ¬ (ca = 1) := by omega
      have hk3 : ¬ (k = 0) ∧ ¬ (k = 1) := ⟨e0, e1⟩
      clear i6 q1 q2
      go_upto_region 9 with fail
      obtain ⟨Y, hY⟩ : ∃ Y, Y = w5.setCell ⟨E, 0, none⟩ (.slice (some ⟨kb, ko + 1, none⟩) 15 (ca - 1)) := ⟨_, rfl⟩
      rw [← hY] at BB ⊢
      clear hY hc0 hf0
      have pe := BB.pe
      have pz := BB.pz
      have HF : Hid _ := BB.fin
      clear BB
      go_wp2_with (first
        | (refine wpList_load_row rfl 27 _ rfl E rfl 27 ([Value.slice (some ⟨kb, ko + 1, none⟩) 15 (ca - 1), Value.slice ab 16 cb]).toArray (0, 0) _ pe Tryd.underlying27 rfl infoPt ?_)
        | (refine wpList_store_row rfl 27 _ _ rfl w.heap.size ([Value.slice (some ⟨kb, ko + 1, none⟩) 15 (ca - 1), Value.slice ab 16 cb]).toArray rfl rfl 27 _ pz infoPt rfl (by simp [Value.oneCell']) ?_))
      exact bodyPost_ret (results_cell_row rfl _ _ w.heap.size 27 #[.slice (some ⟨kb, ko + 1, none⟩) 15 (ca - 1), .slice ab 16 cb] (0, 0) _ rfl HF.out.2.2.2 Tryd.underlying27 rfl infoPt) rfl ⟨_, _, _, rfl, HF.out.1, HF.out.2.1, HF.out.2.2.1⟩
end Go.Proofs.YtoblilngppjmhaaDoor
namespace Go.Proofs.YtoblilngppjmhaaDoor
open Go.RowKit
set_option maxRecDepth 100000

set_option maxHeartbeats 2000000 in
theorem drawPtBytes (a : Option Addr) (n c : Nat) (xs : List Int) (w : World) (h : Bs w a n c xs) (hm : n ≤ 9223372036854775807) :
    Calls Tryd.prog 28 #[.slice a n c] w fun e w' => ∃ v l1 l2, e = .returned v ∧ PtV w w' v l1 l2 ∧ Below w.heap.size w w' := by
  obtain ⟨W, hW⟩ : ∃ W, W = w.alloc (.cells #[.slice none 0 0, .slice none 0 0] 27) := ⟨_, rfl⟩
  have z0 : Arr W w.heap.size 27 [.slice none 0 0, .slice none 0 0] := by rw [hW]; exact Arr.new _ _ _
  have gB : Below w.heap.size w W := by rw [hW]; exact (Below.refl _ _).alloc (Nat.le_refl _) _
  go_enter Tryd.func28, Tryd.ntmps28
  go_wp2_with fail
  rw [← hW]
  clear hW
  refine (curNew a n c xs _ (h.below gB) hm).mono ?_
  rintro e w1 ⟨rfl, c1, d1, hs1, hb1⟩
  have z1 := z0.kept hb1
  have l0 := z0.lt
  have gB1 := gB.trans (hb1.mono gB.size)
  go_wp2_with fail
  refine (curBent6 W.heap.size a n c xs _ c1 d1).mono ?_
  rintro e w2 ⟨v, l1, l2, rfl, ⟨a1, n1, e1, a2, n2, e2, rfl, i1, i2, f1, f2, b1, b2⟩, c2, g2⟩
  have z2 := arr_cur z1 g2 (by omega)
  have gB2 : Below w.heap.size w w2 := gB1.grown g2 (by omega) (fun k hk => by have := Option.some.inj hk; omega)
  have hs := gB1.size
  have hb := setRow_below gB2 w.heap.size #[.slice a1 n1 e1, .slice a2 n2 e2] (Nat.le_refl _)
  have hq := setRow_below (B := w.heap.size) (w := w2) (w' := w2) (Below.refl _ _) w.heap.size #[.slice a1 n1 e1, .slice a2 n2 e2] (Nat.le_refl _)
  have hg : w2.grownBy (w2.setRow w.heap.size #[.slice a1 n1 e1, .slice a2 n2 e2]) (some w.heap.size) := ⟨hq.os, hq.tape, hq.output, hq.size, fun k hk hne => setRow_other w2 w.heap.size k _ (fun e => hne (by rw [e]))⟩
  have HA : Hid _ := z2.row [.slice a1 n1 e1, .slice a2 n2 e2]
  have HB : Hid _ := hb
  have HI : Hid (PtV w (w2.setRow w.heap.size #[.slice a1 n1 e1, .slice a2 n2 e2]) (.agg #[.slice a1 n1 e1, .slice a2 n2 e2]) l1 l2) :=
    ⟨a1, n1, e1, a2, n2, e2, rfl, is_cur i1 hg f1 hs, is_cur i2 hg f2 hs, fun k o s e => by have := f1 k o s e; omega, fun k o s e => by have := f2 k o s e; omega, b1, b2⟩
  clear z0 z1 gB gB1 gB2 c1 d1 c2 g2 i1 i2 f1 f2 hb1 h hb hq hg
  go_wp2_with (first
    | (refine wpList_store_row rfl 27 _ _ rfl w.heap.size ([Value.slice a1 n1 e1, Value.slice a2 n2 e2]).toArray rfl rfl 27 _ z2 infoPt rfl (by simp [Value.oneCell']) ?_))
  exact bodyPost_ret (results_cell_row rfl _ _ w.heap.size 27 #[.slice a1 n1 e1, .slice a2 n2 e2] (0, 0) _ rfl HA.out Tryd.underlying27 rfl infoPt) rfl ⟨_, l1, l2, rfl, HI.out, HB.out⟩
end Go.Proofs.YtoblilngppjmhaaDoor
namespace Go.Proofs.YtoblilngppjmhaaDoor

theorem reach_of {H : Type} {d : DataW H} {ts : List TypeId} {ds : List (DataW H)} (h : (DataW.weightsEach Tryd.prog (22 :: ts) (d :: ds)).all (· ≤ reachBytes) = true) : Joins.sliceLen d ≤ 140737488351232 := by
  cases d with
  | slice el sp =>
    have h1 := sized_slice h (j := 0) (t := 22) (e := 5) rfl rfl Tryd.underlying22
    rw [show Tryd.prog.bytesOf 5 = 1 by kernel_rfl] at h1
    simp only [Joins.sliceLen, reachBytes] at h1 ⊢
    omega
  | _ => simp [Joins.sliceLen]
end Go.Proofs.YtoblilngppjmhaaDoor

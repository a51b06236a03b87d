/-
  What is proved here: what the specification's l8bentKeys and DrawKeyFor answer: some keys; what the specification's l8data and DrawPartOf answer; the bytes of eight words; no condition; the eight bytes of a length in bits; plain mathematics, no condition; the bytes that are padded behind a message; plain mathematics, no condition; the contract of a helper of the exact laws (copy a slice of ints), for every slice of at most 2^21 ints; contracts of the program's shaWordsOf and of the specification's l2isWords: both look whether there are eight numbers in 0 .. 2^32 - 1; for every slice of ints.
-/
import Derived.Test.YtofflhhlacdgfaaDoorJM6
import Derived.Test.YtofflhhlacdgfaaDoorJM1
import Derived.Test.YtofflhhlacdgfaaDoorJM5
import Derived.Test.YtofflhhlacdgfaaDoorJM2
import Derived.Deep.Light
namespace Go.Proofs.YtofflhhlacdgfaaDoor
open Go.RowKit
set_option maxRecDepth 100000
set_option maxHeartbeats 4000000
set_option linter.unusedVariables false

theorem own_pk {W W' : World} {lo p e s n : Nat} {v : Value} {xs : List Value} (h : W.ownsRow lo e s v n xs) (hp : p < lo) (hg : W.grownBy W' (some p)) : W'.ownsRow lo e s v n xs :=
  h.kept hg (by
    cases hv : v.ownBlock with
    | none => exact .inl rfl
    | some j => exact .inr (fun e => by have := (World.ownsRow.lt h j hv).1; injection e with e; omega))
theorem Pubs.p {lo p k : Nat} {W W' : World} {l : List L4} (h : Pubs lo W l k) (hp : p < lo) (hg : W.grownBy W' (some p)) : Pubs lo W' l k := fun q hq => by
  obtain ⟨i, r, b, a, c, xs, e, o, hx⟩ := h q hq
  exact ⟨i, r, b, a, c, xs, e, own_pk o hp hg, hx⟩
theorem bs_tailK {w : World} {b o n c : Nat} {xs : List Int} (h : Bs w (some ⟨b, o, none⟩) (n + 1) c xs) : Bs w (some ⟨b, o + 1, none⟩) n (c - 1) xs.tail := by
  obtain ⟨_, hl, hc, hby, hr⟩ := h
  have hr' : b < w.heap.size ∧ ∀ j, j < n + 1 → w.cell? ⟨b, o + j, none⟩ = some (.int .u8 (xs.getD j 0)) := by
    rcases hr with hr | ⟨b', o', e, hlt, hcell⟩
    · omega
    · cases e; exact ⟨hlt, hcell⟩
  refine ⟨(fun h => by cases h), by rw [List.length_tail, hl]; rfl, by omega, fun x hx => hby x (List.mem_of_mem_tail hx), .inr ⟨b, o + 1, rfl, hr'.1, fun j hj => ?_⟩⟩
  have e : xs.tail.getD j 0 = xs.getD (j + 1) 0 := by cases xs <;> rfl
  rw [e, Nat.add_assoc, Nat.add_comm 1 j]
  exact hr'.2 (j + 1) (by omega)
/-- A key in a row; its bytes lie elsewhere. -/
abbrev KyAt (W : World) (lo g q : Nat) : Prop := ∃ (x : KeyM) (ha : Option Addr) (hc : Nat), KeyAt W g (q * 4) x ha hc ∧ x.p.length = 32 ∧ ∀ b o, ha = some ⟨b, o, none⟩ → b ≠ g ∧ lo ≤ b
abbrev KyL (W : World) (lo g q : Nat) : Prop := ∃ (x : KeyM) (ha : Option Addr) (hc : Nat), KeyAt W g (q * 4) x ha hc ∧ ∀ b o, ha = some ⟨b, o, none⟩ → lo ≤ b
theorem ks_all {W : World} {lo g cap : Nat} (h : ∀ q, q < 4 → KyL W lo g q) (hg : g < W.heap.size) (hcap : 4 ≤ cap) : ∃ ks, Ks W (some ⟨g, 0, none⟩) 4 cap ks := by
  obtain ⟨x0, a0, c0, h0, _⟩ := h 0 (by omega)
  obtain ⟨x1, a1, c1, h1, _⟩ := h 1 (by omega)
  obtain ⟨x2, a2, c2, h2, _⟩ := h 2 (by omega)
  obtain ⟨x3, a3, c3, h3, _⟩ := h 3 (by omega)
  refine ⟨[x0, x1, x2, x3], (fun h => by cases h), rfl, hcap, .inr ⟨g, 0, rfl, hg, fun i hi => ?_⟩⟩
  have hi2 : i = 0 ∨ i = 1 ∨ i = 2 ∨ i = 3 := by omega
  rcases hi2 with rfl | rfl | rfl | rfl
  · exact ⟨a0, c0, h0⟩
  · exact ⟨a1, c1, h1⟩
  · exact ⟨a2, c2, h2⟩
  · exact ⟨a3, c3, h3⟩
theorem ky_of {W : World} {lo g cap : Nat} {l : List L4} (O : W.ownsRow lo 57 4 (.slice (some ⟨g, 0, none⟩) 4 cap) 4 (QL l)) (hl : l.length = 4) (P : Pubs lo W l 4) : ∀ q, q < 4 → KyAt W lo g q := fun q hq => by
  obtain ⟨i, r, b, a, c, xs, e, o, hx, h32⟩ := P q hq
  obtain ⟨g0, g1, g2, g3⟩ := QL_get l q (by omega)
  rw [e] at g0 g1 g2 g3
  refine ⟨⟨i, r, b, xs⟩, a, c, ⟨(O.cellAt _ (by omega)).trans g0, (O.cellAt _ (by omega)).trans g1, (O.cellAt _ (by omega)).trans g2, (O.cellAt _ (by omega)).trans g3, bs_of_own o hx⟩, h32, fun b' o' e' => ?_⟩
  have hlo := World.ownsRow.lt o b' (by rw [e']; rfl)
  have := own_types O o (by decide)
  rw [e'] at this
  refine ⟨?_, hlo.1⟩
  rcases this with h | h
  · cases h
  · intro hb
    exact h (by simp [Value.ownBlock, hb])
theorem cell_put {W : World} {g k j : Nat} {u : Value} (hk : (W.cell? ⟨g, k, none⟩).isSome = true) : (W.setCell ⟨g, k, none⟩ u).cell? ⟨g, j, none⟩ = if j = k then some u else W.cell? ⟨g, j, none⟩ := by
  by_cases e : j = k
  · subst e
    rw [if_pos rfl]
    have := World.cell?_setCells_in g [u] j W (fun q hq => by have : q = 0 := by simpa using hq
                                                              subst this; exact hk) 0 (by simp)
    exact this
  · rw [if_neg e]
    exact World.cell?_setCells_out g [u] k W ⟨g, j, none⟩ (fun _ _ => by show j < k ∨ k + 1 ≤ j; omega)
theorem bs_put {W : World} {g k n c : Nat} {u : Value} {a : Option Addr} {xs : List Int} (h : Bs W a n c xs) (hne : ∀ b o, a = some ⟨b, o, none⟩ → b ≠ g) : Bs (W.setCell ⟨g, k, none⟩ u) a n c xs := by
  obtain ⟨h0, h1, h2, h3, h4⟩ := h
  refine ⟨h0, h1, h2, h3, ?_⟩
  rcases h4 with h4 | ⟨b, o, e, hlt, hc⟩
  · exact .inl h4
  · have := hne b o e
    exact .inr ⟨b, o, e, by simp only [World.size_setCell]; exact hlt, fun j hj => (World.cell?_setCells_out g [u] k W ⟨b, o + j, none⟩ (fun hb _ => absurd hb this)).trans (hc j hj)⟩
theorem ky_far {W : World} {lo g q k : Nat} {u : Value} (h : KyAt W lo g q) (hk : (W.cell? ⟨g, k, none⟩).isSome = true) (hf : k < q * 4 ∨ q * 4 + 4 ≤ k) : KyL (W.setCell ⟨g, k, none⟩ u) lo g q := by
  obtain ⟨x, ha, hc, K, _, hne⟩ := h
  refine ⟨x, ha, hc, ⟨?_, ?_, ?_, ?_, bs_put K.by_ (fun b o e => (hne b o e).1)⟩, fun b o e => (hne b o e).2⟩
  · rw [cell_put hk, if_neg (by omega)]; exact K.i
  · rw [cell_put hk, if_neg (by omega)]; exact K.r
  · rw [cell_put hk, if_neg (by omega)]; exact K.v
  · rw [cell_put hk, if_neg (by omega)]; exact K.p
theorem ky_0 {W : World} {lo g q : Nat} {y : Int} (h : KyAt W lo g q) : KyL (W.setCell ⟨g, q * 4, none⟩ (.int .i64 y)) lo g q := by
  obtain ⟨x, ha, hc, K, _, hne⟩ := h
  have hk : (W.cell? ⟨g, q * 4, none⟩).isSome = true := by rw [K.i]; rfl
  refine ⟨⟨y, x.r, x.v, x.p⟩, ha, hc, ⟨?_, ?_, ?_, ?_, bs_put K.by_ (fun b o e => (hne b o e).1)⟩, fun b o e => (hne b o e).2⟩
  · rw [cell_put hk, if_pos rfl]
  · rw [cell_put hk, if_neg (by omega)]; exact K.r
  · rw [cell_put hk, if_neg (by omega)]; exact K.v
  · rw [cell_put hk, if_neg (by omega)]; exact K.p
theorem ky_1 {W : World} {lo g q : Nat} {y : Int} (h : KyAt W lo g q) : KyL (W.setCell ⟨g, q * 4 + 1, none⟩ (.int .i64 y)) lo g q := by
  obtain ⟨x, ha, hc, K, _, hne⟩ := h
  have hk : (W.cell? ⟨g, q * 4 + 1, none⟩).isSome = true := by rw [K.r]; rfl
  refine ⟨⟨x.i, y, x.v, x.p⟩, ha, hc, ⟨?_, ?_, ?_, ?_, bs_put K.by_ (fun b o e => (hne b o e).1)⟩, fun b o e => (hne b o e).2⟩
  · rw [cell_put hk, if_neg (by omega)]; exact K.i
  · rw [cell_put hk, if_pos rfl]
  · rw [cell_put hk, if_neg (by omega)]; exact K.v
  · rw [cell_put hk, if_neg (by omega)]; exact K.p
theorem ky_2 {W : World} {lo g q : Nat} {y : Bool} (h : KyAt W lo g q) : KyL (W.setCell ⟨g, q * 4 + 2, none⟩ (.bool y)) lo g q := by
  obtain ⟨x, ha, hc, K, _, hne⟩ := h
  have hk : (W.cell? ⟨g, q * 4 + 2, none⟩).isSome = true := by rw [K.v]; rfl
  refine ⟨⟨x.i, x.r, y, x.p⟩, ha, hc, ⟨?_, ?_, ?_, ?_, bs_put K.by_ (fun b o e => (hne b o e).1)⟩, fun b o e => (hne b o e).2⟩
  · rw [cell_put hk, if_neg (by omega)]; exact K.i
  · rw [cell_put hk, if_neg (by omega)]; exact K.r
  · rw [cell_put hk, if_pos rfl]
  · rw [cell_put hk, if_neg (by omega)]; exact K.p
theorem ky_3 {W : World} {lo g q b o hc : Nat} {x : KeyM} (K : KeyAt W g (q * 4) x (some ⟨b, o, none⟩) hc) (h32 : x.p.length = 32) (hne : b ≠ g) (hlo : lo ≤ b) : KyL (W.setCell ⟨g, q * 4 + 3, none⟩ (.slice (some ⟨b, o + 1, none⟩) 31 (hc - 1))) lo g q := by
  have hk : (W.cell? ⟨g, q * 4 + 3, none⟩).isSome = true := by rw [K.p]; rfl
  have hb := K.by_
  rw [h32] at hb
  have ht := bs_tailK (n := 31) hb
  have hl : x.p.tail.length = 31 := by rw [List.length_tail, h32]
  refine ⟨⟨x.i, x.r, x.v, x.p.tail⟩, some ⟨b, o + 1, none⟩, hc - 1, ⟨?_, ?_, ?_, ?_, ?_⟩, fun b' o' e => by cases e; exact hlo⟩
  · rw [cell_put hk, if_neg (by omega)]; exact K.i
  · rw [cell_put hk, if_neg (by omega)]; exact K.r
  · rw [cell_put hk, if_neg (by omega)]; exact K.v
  · rw [cell_put hk, if_pos rfl]
    show some (Value.slice _ 31 _) = some (Value.slice _ x.p.tail.length _)
    rw [hl]
  · show Bs _ _ x.p.tail.length _ x.p.tail
    rw [hl]
    exact bs_put ht (fun b' o' e => by cases e; exact hne)
theorem KyL.p {W W' : World} {lo g q p : Nat} (h : KyL W lo g q) (hg : lo ≤ g) (hgl : g < W.heap.size) (hp : p < lo) (hw : W.grownBy W' (some p)) : KyL W' lo g q := by
  obtain ⟨x, ha, hc, K, hlo⟩ := h
  have e := hw.block g hgl (by intro e; injection e with e; omega)
  refine ⟨x, ha, hc, ⟨(World.cell?_of_block (a := ⟨g, _, none⟩) e).trans K.i, (World.cell?_of_block (a := ⟨g, _, none⟩) e).trans K.r, (World.cell?_of_block (a := ⟨g, _, none⟩) e).trans K.v, (World.cell?_of_block (a := ⟨g, _, none⟩) e).trans K.p, ?_⟩, hlo⟩
  obtain ⟨h0, h1, h2, h3, h4⟩ := K.by_
  refine ⟨h0, h1, h2, h3, ?_⟩
  rcases h4 with h4 | ⟨b, o, eb, hlt, hcell⟩
  · exact .inl h4
  · have := hlo b o eb
    have e2 := hw.block b hlt (by intro e; injection e with e; omega)
    exact .inr ⟨b, o, eb, Nat.lt_of_lt_of_le hlt hw.size, fun j hj => (World.cell?_of_block (a := ⟨b, o + j, none⟩) e2).trans (hcell j hj)⟩
structure D8 (w W : World) (p : Nat) (a : Option Addr) (n c : Nat) : Prop where
  cu : Cur W p a n c
  gr : w.grownBy W (some p)
section
variable {w W W' : World} {p : Nat} {a : Option Addr} {n c : Nat}
theorem D8.draw (h : D8 w W p a n c) (hc : Cur W' p a n c) (hg : W.grownBy W' (some p)) : D8 w W' p a n c := ⟨hc, grown_into h.gr hg (fun k hk => .inr (by injection hk with hk; exact hk.symm))⟩
theorem D8.alloc (h : D8 w W p a n c) (o : Obj) : D8 w (W.alloc o) p a n c := ⟨cur_keep h.cu (grown_alloc W o none) (by simp), grown_into h.gr (grown_alloc W o (some p)) (fun k hk => .inr (by injection hk with hk; exact hk.symm))⟩
theorem D8.below (h : D8 w W p a n c) (hb : Below W.heap.size W W') : D8 w W' p a n c := ⟨cur_keep h.cu (row := none) ⟨hb.os, hb.tape, hb.output, hb.size, fun i hi _ => hb.block i hi⟩ (by simp), grown_into h.gr (show W.grownBy W' (some p) from ⟨hb.os, hb.tape, hb.output, hb.size, fun i hi _ => hb.block i hi⟩) (fun k hk => .inr (by injection hk with hk; exact hk.symm))⟩
theorem D8.set (h : D8 w W p a n c) {g : Nat} (hg : w.heap.size ≤ g) (hp : p < w.heap.size) (j : Nat) (v : Value) : D8 w (W.setCell ⟨g, j, none⟩ v) p a n c :=
  ⟨cur_keep h.cu (cur_grown2 W g v j) (by intro e; injection e with e; omega), grown_into h.gr (cur_grown2 W g v j) (fun k hk => .inl (by injection hk with hk; omega))⟩
end
theorem curBentKeys (p : Nat) (a : Option Addr) (n c : Nat) (xs : List Int) (w : World) (hcur : Cur w p a n c) (hcode : Coded w p a n c xs) :
    Calls Tryd.prog 83 #[.pointer (some ⟨p, 0, none⟩)] w fun e w' => ∃ (g cap : Nat), e = .returned (.slice (some ⟨g, 0, none⟩) 4 cap) ∧ w.heap.size ≤ g ∧ g < w'.heap.size ∧ 4 ≤ cap ∧ (∀ q, q < 4 → KyL w' w.heap.size g q) ∧ Cur w' p a n c ∧ w.grownBy w' (some p) := by
  have hp0 := cur_lt hcur
  have D : D8 w w p a n c := ⟨hcur, World.grownBy.refl _ _⟩
  go_enter Tryd.func83, Tryd.ntmps83
  clear hcur
  go_wp2_with fail
  refine (specL8keys _).mono ?_
  rintro e w1 ⟨v, l, rfl, O, hl, hP, hb⟩
  replace D := D.below hb
  obtain ⟨g, cap, rfl, hgs, hcap⟩ : ∃ g cap, v = .slice (some ⟨g, 0, none⟩) 4 cap ∧ w.heap.size ≤ g ∧ 4 ≤ cap := by
    rcases O.2 with ⟨_, h⟩ | ⟨g, cap, cur, rfl, hg, _, h1, _⟩
    · omega
    · exact ⟨g, cap, rfl, hg, h1⟩
  have HO : Hid (w1.ownsRow w.heap.size 57 4 (.slice (some ⟨g, 0, none⟩) 4 cap) 4 (QL l)) := O
  have HP : Hid (Pubs w.heap.size w1 l 4) := hP
  have HL : Hid (l.length = 4) := hl
  clear O hl hP hb
  go_wp2_with fail
  refine (curOnce p a n c xs _ _ D.cu (hcode.grown D.gr) (by omega)).mono ?_
  rintro e w2 ⟨q, rfl, hc, hg⟩
  replace D := D.draw hc hg
  replace HO : Hid (w2.ownsRow w.heap.size 57 4 (.slice (some ⟨g, 0, none⟩) 4 cap) 4 (QL l)) := own_pk HO.out hp0 hg
  replace HP : Hid (Pubs w.heap.size w2 l 4) := HP.out.p hp0 hg
  clear hc hg
  cases q
  · have HK : Hid (∀ q, q < 4 → KyL w2 w.heap.size g q) := fun q hq => by obtain ⟨x, ha, hc, K, _, hne⟩ := ky_of HO.out HL.out HP.out q hq; exact ⟨x, ha, hc, K, fun b o e => (hne b o e).2⟩
    have hgl := (World.ownsRow.lt HO.out g rfl).2
    go_wp2
    go_ret
    exact ⟨g, cap, rfl, hgs, hgl, hcap, HK.out, D.cu, D.gr⟩
  go_wp2_with fail
  refine (curBelow p a n c xs _ _ D.cu (hcode.grown D.gr) (by omega)).mono ?_
  rintro e w3 ⟨x, rfl, h0_x, h1_x, _, hc, hg⟩
  replace h1_x := h1_x (by omega)
  replace D := D.draw hc hg
  replace HO : Hid (w3.ownsRow w.heap.size 57 4 (.slice (some ⟨g, 0, none⟩) 4 cap) 4 (QL l)) := own_pk HO.out hp0 hg
  replace HP : Hid (Pubs w.heap.size w3 l 4) := HP.out.p hp0 hg
  clear hc hg
  have hx : x = 0 ∨ x = 1 ∨ x = 2 ∨ x = 3 := by omega
  rcases hx with rfl | rfl | rfl | rfl
  · go_wp2_with fail
    have cl := cells_arr w3 [0, -1, 256] 3
    refine (curPick p a n c xs _ 3 [0, -1, 256] _ (cur_keep D.cu (grown_alloc _ _ none) (by simp)) ((hcode.grown D.gr).grown (grown_alloc _ _ (some p))) rfl (by omega) (by omega) (by have := cur_lt D.cu; omega) (fun j hj => cl j hj)).mono ?_
    rintro e w4 ⟨y, rfl, _, hc, hg⟩
    replace D := (D.alloc _).draw hc hg
    replace HO : Hid (w4.ownsRow w.heap.size 57 4 (.slice (some ⟨g, 0, none⟩) 4 cap) 4 (QL l)) := own_pk (World.ownsRow.alloc HO.out _) hp0 hg
    replace HP : Hid (Pubs w.heap.size w4 l 4) := (HP.out.below ((Below.refl _ _).alloc (Nat.le_refl _) _)).p hp0 hg
    clear hc hg cl
    have hF := HO.out.frozenAt 4
    have KY := ky_of HO.out HL.out HP.out
    have hgl := (World.ownsRow.lt HO.out g rfl).2
    obtain ⟨x9, a9, c9, K9, h9, n9⟩ := KY 1 (by omega)
    have e0 := K9.i
    have e1 := K9.r
    have e2 := K9.v
    have e3 := K9.p
    simp at e0 e1 e2 e3
    have HK : Hid (∀ q, q < 4 → KyL (w4.setCell ⟨g, 4, none⟩ (.int .i64 y)) w.heap.size g q) := (fun q hq => by
      by_cases e : q = 1
      · subst e
        exact ky_0 (KY 1 (by omega))
      · exact ky_far (KY q hq) (by first | (rw [e0]; rfl) | (rw [e1]; rfl) | (rw [e2]; rfl) | (rw [e3]; rfl)) (by omega))
    have HD : Hid _ := D.set hgs hp0 4 (.int .i64 y)
    clear K9 KY D HO HP
    go_wp2
    go_ret
    exact ⟨g, cap, rfl, hgs, by simp only [World.size_setCell]; exact hgl, hcap, HK.out, HD.out.cu, HD.out.gr⟩
  · go_wp2_with fail
    have cl := cells_arr w3 [0, 1, 3] 3
    refine (curPick p a n c xs _ 3 [0, 1, 3] _ (cur_keep D.cu (grown_alloc _ _ none) (by simp)) ((hcode.grown D.gr).grown (grown_alloc _ _ (some p))) rfl (by omega) (by omega) (by have := cur_lt D.cu; omega) (fun j hj => cl j hj)).mono ?_
    rintro e w4 ⟨y, rfl, _, hc, hg⟩
    replace D := (D.alloc _).draw hc hg
    replace HO : Hid (w4.ownsRow w.heap.size 57 4 (.slice (some ⟨g, 0, none⟩) 4 cap) 4 (QL l)) := own_pk (World.ownsRow.alloc HO.out _) hp0 hg
    replace HP : Hid (Pubs w.heap.size w4 l 4) := (HP.out.below ((Below.refl _ _).alloc (Nat.le_refl _) _)).p hp0 hg
    clear hc hg cl
    have hF := HO.out.frozenAt 1
    have KY := ky_of HO.out HL.out HP.out
    have hgl := (World.ownsRow.lt HO.out g rfl).2
    obtain ⟨x9, a9, c9, K9, h9, n9⟩ := KY 0 (by omega)
    have e0 := K9.i
    have e1 := K9.r
    have e2 := K9.v
    have e3 := K9.p
    simp at e0 e1 e2 e3
    have HK : Hid (∀ q, q < 4 → KyL (w4.setCell ⟨g, 1, none⟩ (.int .i64 y)) w.heap.size g q) := (fun q hq => by
      by_cases e : q = 0
      · subst e
        exact ky_1 (KY 0 (by omega))
      · exact ky_far (KY q hq) (by first | (rw [e0]; rfl) | (rw [e1]; rfl) | (rw [e2]; rfl) | (rw [e3]; rfl)) (by omega))
    have HD : Hid _ := D.set hgs hp0 1 (.int .i64 y)
    clear K9 KY D HO HP
    go_wp2
    go_ret
    exact ⟨g, cap, rfl, hgs, by simp only [World.size_setCell]; exact hgl, hcap, HK.out, HD.out.cu, HD.out.gr⟩
  · have KY0 := ky_of HO.out HL.out HP.out 0 (by omega)
    obtain ⟨xk, ak, ck, Kk, h32k, nek⟩ := KY0
    obtain ⟨bk, ok, rfl⟩ : ∃ bk ok, ak = some ⟨bk, ok, none⟩ := by
      rcases Kk.by_.2.2.2.2 with h | ⟨b, o, e, _⟩
      · omega
      · exact ⟨b, o, e⟩
    have hck : 32 ≤ ck := by have := Kk.by_.2.2.1; omega
    have hcp := Kk.p
    rw [h32k] at hcp
    have i1 : (1 : Int) ≤ (ck : Int) := by omega
    have i2 : (32 : Int) ≤ (ck : Int) := by omega
    have hF := HO.out.frozenAt 3
    have KY := ky_of HO.out HL.out HP.out
    have hgl := (World.ownsRow.lt HO.out g rfl).2
    simp at hcp
    have HK : Hid (∀ q, q < 4 → KyL (w3.setCell ⟨g, 3, none⟩ (.slice (some ⟨bk, ok + 1, none⟩) 31 (ck - 1))) w.heap.size g q) := (fun q hq => by
      by_cases e : q = 0
      · subst e
        exact ky_3 (q := 0) Kk h32k (nek bk ok rfl).1 (nek bk ok rfl).2
      · exact ky_far (KY q hq) (by rw [hcp]; rfl) (by omega))
    have HD : Hid _ := D.set hgs hp0 3 (.slice (some ⟨bk, ok + 1, none⟩) 31 (ck - 1))
    clear Kk KY D HO HP
    go_wp2
    go_ret
    exact ⟨g, cap, rfl, hgs, by simp only [World.size_setCell]; exact hgl, hcap, HK.out, HD.out.cu, HD.out.gr⟩
  · have hF := HO.out.frozenAt 2
    have KY := ky_of HO.out HL.out HP.out
    have hgl := (World.ownsRow.lt HO.out g rfl).2
    obtain ⟨x9, a9, c9, K9, h9, n9⟩ := KY 0 (by omega)
    have e0 := K9.i
    have e1 := K9.r
    have e2 := K9.v
    have e3 := K9.p
    simp at e0 e1 e2 e3
    have HK : Hid (∀ q, q < 4 → KyL (w3.setCell ⟨g, 2, none⟩ (.bool true)) w.heap.size g q) := (fun q hq => by
      by_cases e : q = 0
      · subst e
        exact ky_2 (KY 0 (by omega))
      · exact ky_far (KY q hq) (by first | (rw [e0]; rfl) | (rw [e1]; rfl) | (rw [e2]; rfl) | (rw [e3]; rfl)) (by omega))
    have HD : Hid _ := D.set hgs hp0 2 (.bool true)
    clear K9 KY D HO HP
    go_wp2
    go_ret
    exact ⟨g, cap, rfl, hgs, by simp only [World.size_setCell]; exact hgl, hcap, HK.out, HD.out.cu, HD.out.gr⟩
theorem drawKeyFor (a : Option Addr) (n c : Nat) (xs : List Int) (w : World) (h : Bs w a n c xs) (hm : n ≤ 9223372036854775807) :
    Calls Tryd.prog 28 #[.slice a n c] w fun e w' => ∃ (g cap : Nat) (ks : List KeyM) (id : Int), e = .returned (.tuple #[.slice (some ⟨g, 0, none⟩) 4 cap, .int .i64 id]) ∧ Ks w' (some ⟨g, 0, none⟩) 4 cap ks ∧ Below w.heap.size w w' := by
  have HBs : Hid (Bs w a n c xs) := h
  go_enter Tryd.func28, Tryd.ntmps28
  clear h
  go_wp2_with fail
  refine (curNew a n c xs _ HBs.out hm).mono ?_
  rintro e w1 ⟨rfl, hc1, hd1, hs1, hb1⟩
  obtain ⟨p, hp⟩ : ∃ p, p = w.heap.size := ⟨_, rfl⟩
  rw [← hp] at hc1 hd1 ⊢
  have hcode := hd1
  have D : D8 w1 w1 p a n c := ⟨hc1, World.grownBy.refl _ _⟩
  have hp0 := cur_lt hc1
  have HW : Hid (Below w.heap.size w w1) := hb1
  have HP : Hid (w.heap.size ≤ p) := by unfold Hid; omega
  clear hc1 hd1 hs1 hb1 hp HBs
  go_wp2_with fail
  refine (curBentKeys p a n c xs _ D.cu (hcode.grown D.gr)).mono ?_
  rintro e w2 ⟨g, cap, rfl, hgs, hgl, hcap, hK, hc, hg⟩
  replace D := D.draw hc hg
  have HK : Hid (∀ q, q < 4 → KyL w2 w1.heap.size g q) := hK
  clear hc hg hK
  go_wp2_with fail
  refine (curBelow p a n c xs _ _ D.cu (hcode.grown D.gr) (by omega)).mono ?_
  rintro e w3 ⟨x, rfl, h0_x, h1_x, _, hc, hg⟩
  replace h1_x := h1_x (by omega)
  replace D := D.draw hc hg
  obtain ⟨ks, hK⟩ := ks_all (lo := w1.heap.size) (fun q hq => (HK.out q hq).p hgs hgl hp0 hg) (Nat.lt_of_lt_of_le hgl hg.size) hcap
  have HKs : Hid (Ks w3 (some ⟨g, 0, none⟩) 4 cap ks) := hK
  have BB := HW.out.grown D.gr HW.out.size (fun k hk => by injection hk with hk; have := HP.out; omega)
  have hw : IntKind.i64.wrap (x - 1) = x - 1 := wr64 (by omega) (by omega)
  clear hc hg hK HK D
  go_wp2
  go_ret2
  exact ⟨g, cap, ks, _, rfl, HKs.out, BB⟩
end Go.Proofs.YtofflhhlacdgfaaDoor
namespace Go.Proofs.YtofflhhlacdgfaaDoor
open Go.RowKit
set_option maxRecDepth 100000
set_option maxHeartbeats 4000000
set_option linter.unusedVariables false

abbrev bytesF (ys : List Int) : Prop := ∀ x ∈ ys, 0 ≤ x ∧ x < 256
theorem u8_appF (xs ys : List Int) : U8 (xs ++ ys) = List.map (Value.int IntKind.u8) xs ++ List.map (Value.int IntKind.u8) ys := by simp [U8]
theorem u8_rangeF (x : Int) : 0 ≤ IntKind.u8.wrap x ∧ IntKind.u8.wrap x < 256 := by simp [IntKind.wrap, IntKind.signed, IntKind.bits]; omega
theorem specL8data (n : Int) (w : World) (hn : n ≤ 200) :
    Calls Tryd.prog 78 #[.int .i64 1, .int .i64 2, .int .i64 n] w fun e w' => ∃ (u : Value) (ys : List Int), e = .returned u ∧ w'.ownsRow w.heap.size 5 1 u ys.length (U8 ys) ∧ bytesF ys ∧ ys.length = n.toNat ∧ Below w.heap.size w w' := by
  go_enter Tryd.func78, Tryd.ntmps78
  go_wp2
  go_loopw [7, 8] (fun u i wr => ∃ (j : Nat) (ys : List Int), j ≤ n.toNat ∧ i = .int .i64 j ∧ ys.length = j ∧ Hid (wr.ownsRow w.heap.size 5 1 u j (U8 ys)) ∧ Hid (bytesF ys) ∧ Below w.heap.size w wr) (fun _ i _ => n.toNat - (intOf i).toNat)
  case atStart => exact ⟨0, [], by omega, rfl, rfl, World.ownsRow_nil _ _ _ _, (fun x hx => by cases hx), Below.refl _ _⟩
  case round =>
    obtain ⟨j, ys, hj, rfl, hl, HO, HY, B⟩ := hrel
    by_cases hlt : (j : Int) < n
    · have hj2 : j ≤ 200 := by omega
      have hjj : (j : Int) * (j : Int) ≤ 40000 := by
        have h1 : j * j ≤ 40000 := Nat.mul_le_mul hj2 hj2
        rw [← Int.natCast_mul]
        exact Int.ofNat_le.2 h1
      have hj0 : 0 ≤ (j : Int) * (j : Int) := by rw [← Int.natCast_mul]; exact Int.natCast_nonneg _
      have hw : IntKind.i64.wrap ((j : Int) + 1) = (j : Int) + 1 := wr64 (by omega) (by omega)
      have hw2 : IntKind.i64.wrap ((j : Int) * (j : Int)) = (j : Int) * (j : Int) := wr64 (by omega) (by omega)
      have hw3 : IntKind.i64.wrap (45 + (j : Int) * (j : Int)) = 45 + (j : Int) * (j : Int) := wr64 (by omega) (by omega)
      have hy2 := u8_rangeF (45 + (j : Int) * (j : Int))
      obtain ⟨y, hy⟩ : ∃ y, IntKind.u8.wrap (45 + (j : Int) * (j : Int)) = y := ⟨_, rfl⟩
      rw [hy] at hy2
      have HN : Hid (j + 1 ≤ n.toNat) := by unfold Hid; omega
      have HY3 : Hid (bytesF (ys ++ [y])) := fun x hx => by
        rw [List.mem_append] at hx
        rcases hx with h | h
        · exact HY.out x h
        · simp at h; rw [h]; exact hy2
      clear hjj hj0 hj hj2 HY
      go_wp2_with (at_builtin; refine wpl_append_bs rfl _ _ rfl w.heap.size u7 j ys rfl (some ⟨wr.heap.size, 0, none⟩) 1 1 [y] rfl (World.ownsRow.alloc HO.out _) (Bs.one wr y hy2.1 hy2.2) (by have := HN.out; omega) (Nat.le_trans B.size (by simp)) ?_)
      intro v3 w3 O3 g3 _
      have HO3 : Hid (w3.ownsRow w.heap.size 5 1 v3 (j + 1) (U8 (ys ++ [y]))) := by unfold Hid; rw [u8_appF]; exact O3
      have B3 : Below w.heap.size w w3 := (B.alloc B.size _).grown g3 (Nat.le_trans B.size (by simp)) (fun k hk => (World.ownsRow.lt HO.out k hk).1)
      clear O3 g3 HO B hw2 hw3 hy
      go_wp2
      go_roundw
      case rel => exact ⟨j + 1, _, HN.out, by go_num, by rw [List.length_append, hl]; rfl, HO3, HY3, B3⟩
      case measure => have := HN.out; simp [intOf]; omega
    · have hjn : j = n.toNat := by omega
      have HL : Hid (ys.length = n.toNat) := by unfold Hid; omega
      clear hjn hj
      go_wp2
      go_ret
      exact ⟨_, rfl, ys, by rw [hl]; exact HO.out, HY.out, HL.out, B⟩
theorem drawPartOf (a : Option Addr) (n c : Nat) (xs : List Int) (w : World) (h : Bs w a n c xs) (hm : n ≤ 9223372036854775807) :
    Calls Tryd.prog 23 #[.slice a n c] w fun e w' => ∃ (k v : Int) (u : Value) (ys : List Int), e = .returned (.tuple #[.int .i64 k, .int .i64 v, u]) ∧ w'.ownsRow w.heap.size 5 1 u ys.length (U8 ys) ∧ bytesF ys ∧ ys.length ≤ 200 ∧ Below w.heap.size w w' := by
  have HBs : Hid (Bs w a n c xs) := h
  go_enter Tryd.func23, Tryd.ntmps23
  clear h
  go_wp2_with fail
  refine (curNew a n c xs _ HBs.out hm).mono ?_
  rintro e w1 ⟨rfl, hc1, hd1, hs1, hb1⟩
  obtain ⟨p, hp⟩ : ∃ p, p = w.heap.size := ⟨_, rfl⟩
  rw [← hp] at hc1 hd1 ⊢
  have hcode := hd1
  have D : D8 w1 w1 p a n c := ⟨hc1, World.grownBy.refl _ _⟩
  have hp0 := cur_lt hc1
  have HW : Hid (Below w.heap.size w w1) := hb1
  have HP : Hid (w.heap.size ≤ p) := by unfold Hid; omega
  clear hc1 hd1 hs1 hb1 hp HBs
  go_wp2_with fail
  have cl := cells_arr w1 [0, 1, 20, 192, 193] 3
  refine (curPick p a n c xs _ 5 [0, 1, 20, 192, 193] _ (cur_keep D.cu (grown_alloc _ _ none) (by simp)) ((hcode.grown D.gr).grown (grown_alloc _ _ (some p))) rfl (by omega) (by omega) (by have := cur_lt D.cu; omega) (fun j hj => cl j hj)).mono ?_
  rintro e w2 ⟨y, rfl, hm_y, hc, hg⟩
  have hy200 : y ≤ 200 := by simp at hm_y; omega
  replace D := (D.alloc _).draw hc hg
  clear hc hg cl hm_y
  go_wp2_with fail
  refine (curBelow p a n c xs _ _ D.cu (hcode.grown D.gr) (by omega)).mono ?_
  rintro e w3 ⟨x, rfl, h0_x, h1_x, _, hc, hg⟩
  replace h1_x := h1_x (by omega)
  replace D := D.draw hc hg
  clear hc hg
  have hw : IntKind.i64.wrap (x - 1) = x - 1 := wr64 (by omega) (by omega)
  go_wp2_with fail
  have cl := cells_arr w3 [0, 1, 5, 1000, 1001, -1] 3
  refine (curPick p a n c xs _ 6 [0, 1, 5, 1000, 1001, -1] _ (cur_keep D.cu (grown_alloc _ _ none) (by simp)) ((hcode.grown D.gr).grown (grown_alloc _ _ (some p))) rfl (by omega) (by omega) (by have := cur_lt D.cu; omega) (fun j hj => cl j hj)).mono ?_
  rintro e w4 ⟨z, rfl, _, hc, hg⟩
  replace D := (D.alloc _).draw hc hg
  have BB := HW.out.grown D.gr HW.out.size (fun k hk => by injection hk with hk; have := HP.out; omega)
  clear hc hg cl D
  go_wp2_with fail
  refine (specL8data y _ hy200).mono ?_
  rintro e w5 ⟨u, ys, rfl, o, hyb, hyl, hb⟩
  obtain ⟨ua, uc, rfl, _, _⟩ := Bs.own o hyb
  have B2 := BB.trans (hb.mono BB.size)
  have HO : Hid (w5.ownsRow w.heap.size 5 1 (.slice ua ys.length uc) ys.length (U8 ys)) := own_lowK o BB.size
  have HYB : Hid (bytesF ys) := hyb
  have HYL : Hid (ys.length ≤ 200) := by unfold Hid; omega
  clear o hb BB hyb hyl
  go_wp2
  go_ret3
  exact ⟨_, _, _, ys, rfl, HO.out, HYB.out, HYL.out, B2⟩
end Go.Proofs.YtofflhhlacdgfaaDoor
namespace Go.Proofs.YtofflhhlacdgfaaDoor
open Go.RowKit

/-- The four bytes of a word, the greatest first. -/
def b4 (x : Int) : List Int := [x / 16777216 % 256, x / 65536 % 256, x / 256 % 256, x % 256]
def sumB (l : List Int) : List Int := l.flatMap b4
theorem sumB_len (l : List Int) : (sumB l).length = 4 * l.length := by
  induction l with
  | nil => rfl
  | cons x l ih => simp only [sumB, List.flatMap_cons, List.length_append, List.length_cons] at ih ⊢; rw [ih]; simp [b4]; omega
theorem b4_byte (x : Int) : ∀ y ∈ b4 x, 0 ≤ y ∧ y < 256 := by
  intro y hy
  simp only [b4, List.mem_cons, List.not_mem_nil, or_false] at hy
  rcases hy with rfl | rfl | rfl | rfl <;> omega
theorem sumB_byte (l : List Int) : ∀ y ∈ sumB l, 0 ≤ y ∧ y < 256 := by
  intro y hy
  obtain ⟨x, _, h⟩ := List.mem_flatMap.1 hy
  exact b4_byte x y h
theorem sumB_snoc {l : List Int} {k : Nat} {x : Int} (h : l.take (k + 1) = l.take k ++ [x]) : sumB (l.take (k + 1)) = sumB (l.take k) ++ b4 x := by
  rw [h]; simp [sumB]

/-- Four new cells, as a slice of bytes. -/
theorem Bs.four (w : World) (x y z t : Int) (h : ∀ u ∈ [x, y, z, t], 0 ≤ u ∧ u < 256) : Bs (w.alloc (.cells #[.int .u8 x, .int .u8 y, .int .u8 z, .int .u8 t] 5)) (some ⟨w.heap.size, 0, none⟩) 4 4 [x, y, z, t] := by
  refine ⟨(fun h => by cases h), rfl, Nat.le_refl _, h, .inr ⟨w.heap.size, 0, rfl, by simp, ?_⟩⟩
  intro j hj
  rw [World.cell?_alloc_at _ _ _ _ rfl]
  match j, hj with
  | 0, _ => rfl
  | 1, _ => rfl
  | 2, _ => rfl
  | 3, _ => rfl

end Go.Proofs.YtofflhhlacdgfaaDoor
namespace Go.Proofs.YtofflhhlacdgfaaDoor
open Go.RowKit

/-- The k-th byte of the length in bits, the greatest first. -/
def lenAt (N : Int) (k : Nat) : Int := 8 * N / 2 ^ (56 - 8 * k) % 256
def lenB (N : Int) (k : Nat) : List Int := (List.range k).map (lenAt N)
theorem lenB_succ (N : Int) (k : Nat) : lenB N (k + 1) = lenB N k ++ [lenAt N k] := by simp [lenB, List.range_succ]
theorem lenAt_byte (N : Int) (k : Nat) : 0 ≤ lenAt N k ∧ lenAt N k < 256 := by unfold lenAt; omega
end Go.Proofs.YtofflhhlacdgfaaDoor
namespace Go.Proofs.YtofflhhlacdgfaaDoor
open Go.RowKit

/-- How many zeros follow the mark. -/
def zn (N : Int) : Nat := (119 - (N % 64).toNat) % 64
def padB (N : Int) : List Int := 128 :: (List.replicate (zn N) 0 ++ lenB N 8)
theorem padB_len (N : Int) : (padB N).length = zn N + 9 := by simp [padB, lenB]
theorem padB_byte (N : Int) : ∀ x ∈ padB N, 0 ≤ x ∧ x < 256 := by
  intro x hx
  simp only [padB, lenB, List.mem_cons, List.mem_append, List.mem_replicate, List.mem_map] at hx
  rcases hx with rfl | ⟨_, rfl⟩ | ⟨k, _, rfl⟩
  · omega
  · omega
  · exact lenAt_byte N k
theorem zn_lt (N : Int) : zn N < 64 := Nat.mod_lt _ (by omega)

end Go.Proofs.YtofflhhlacdgfaaDoor
namespace Go.Proofs.YtofflhhlacdgfaaDoor
open Go.RowKit

end Go.Proofs.YtofflhhlacdgfaaDoor
namespace Go.Proofs.YtofflhhlacdgfaaDoor
open Go.RowKit

/-- Eight numbers in 0 .. 2^32 - 1? -/
def isW (xs : List Int) : Bool := decide (xs.length = 8) && xs.all (fun x => decide (0 ≤ x) && decide (x < 4294967296))

theorem isW_iff (xs : List Int) : isW xs = true ↔ xs.length = 8 ∧ ∀ x ∈ xs, 0 ≤ x ∧ x < 4294967296 := by
  simp [isW]

theorem getD_mem {xs : List Int} {k : Nat} (hk : k < xs.length) : xs.getD k 0 ∈ xs := by
  have e : xs.getD k 0 = xs[k] := by simp [hk]
  rw [e]; exact List.getElem_mem hk

theorem isW_no {xs : List Int} {k : Nat} (hk : k < xs.length) (h : xs.getD k 0 < 0 ∨ 4294967296 ≤ xs.getD k 0) : isW xs = false := by
  cases hq : isW xs with
  | false => rfl
  | true =>
    have := ((isW_iff xs).1 hq).2 (xs.getD k 0) (getD_mem hk)
    omega

theorem all_upto {xs : List Int} (h : ∀ j, j < xs.length → 0 ≤ xs.getD j 0 ∧ xs.getD j 0 < 4294967296) : ∀ x ∈ xs, 0 ≤ x ∧ x < 4294967296 := by
  intro x hx
  obtain ⟨j, hj, rfl⟩ := List.getElem_of_mem hx
  have := h j hj
  have e : xs.getD j 0 = xs[j] := by simp [hj]
  rwa [e] at this

theorem Tryd.infoSw : (Tryd.prog.info? 134).map (·.size) = some 8 := by kernel_rfl

set_option maxRecDepth 100000 in
set_option maxHeartbeats 1000000 in
theorem wordsOf (a : Option Addr) (n cap : Nat) (xs : List Int) (w : World) (h : Is w a n cap xs) :
    Calls Tryd.prog 130 #[.slice a n cap] w fun e w' => ∃ l : List Int, e = .returned (.tuple #[.agg (U32 l).toArray, .bool (isW xs)]) ∧ l.length = 8 ∧ (isW xs = true → l = xs) ∧ Below w.heap.size w w' := by
  obtain ⟨_, hl, hc, _, h⟩ := h
  by_cases h8 : n = 8
  rotate_left
  · have hne : ((n : Int) != 8) = true := by simp; omega
    have hno : isW xs = false := by simp [isW]; intro e; omega
    go_enter Tryd.func130, Tryd.ntmps130
    go_wp2
    refine bodyPost_ret (v := .tuple #[.agg (U32 [0, 0, 0, 0, 0, 0, 0, 0]).toArray, .bool false]) (by rw [results_cell_tmp rfl]; go_simp) rfl ⟨[0, 0, 0, 0, 0, 0, 0, 0], by rw [hno], rfl, (fun h => by rw [hno] at h; cases h), ?_⟩
    exact ((Below.refl _ _).alloc (Nat.le_refl _) _).alloc (by simp) _
  subst h8
  have hne : ((8 : Int) != 8) = false := by simp
  rcases h with h | ⟨b, o, rfl, hbs, hcell⟩
  · omega
  go_enter Tryd.func130, Tryd.ntmps130
  go_wp2
  obtain ⟨W, hW⟩ : ∃ W, W = (w.alloc (.cells (U32 [0, 0, 0, 0, 0, 0, 0, 0]).toArray 134)).alloc (.cells (U32 [0, 0, 0, 0, 0, 0, 0, 0]).toArray 134) := ⟨_, rfl⟩
  have hA0 : Arr W w.heap.size 134 (U32 [0, 0, 0, 0, 0, 0, 0, 0]) := by rw [hW]; exact (Arr.new w _ _).alloc _
  have hA1 : Arr W (w.heap.size + 1) 134 (U32 (xs.take 0 ++ List.replicate (8 - 0) 0)) := by
    rw [hW]
    have := Arr.new (w.alloc (.cells (U32 [0, 0, 0, 0, 0, 0, 0, 0]).toArray 134)) (U32 [0, 0, 0, 0, 0, 0, 0, 0]) 134
    simpa using this
  have hB : Below w.heap.size w W := by rw [hW]; exact ((Below.refl _ _).alloc (Nat.le_refl _) _).alloc (by simp) _
  go_loopw [13] (fun i wr => ∃ k : Nat, k ≤ 8 ∧ i = .int .i64 k ∧ Arr wr w.heap.size 134 (U32 [0, 0, 0, 0, 0, 0, 0, 0]) ∧ Arr wr (w.heap.size + 1) 134 (U32 (xs.take k ++ List.replicate (8 - k) 0)) ∧ Below w.heap.size w wr ∧ ∀ j, j < k → 0 ≤ xs.getD j 0 ∧ xs.getD j 0 < 4294967296) (fun i _ => 8 - (intOf i).toNat)
  case atStart => exact ⟨0, by omega, rfl, hW ▸ hA0, hW ▸ hA1, hW ▸ hB, fun j hj => by omega⟩
  case round =>
    obtain ⟨k, hk, rfl, h0, h1, hb, hin⟩ := hrel
    clear hA0 hA1 hB hW
    have hlen : (xs.take k ++ List.replicate (8 - k) 0).length = 8 := by simp; omega
    by_cases hlt : k < 8
    · obtain ⟨x, hx⟩ : ∃ x, x = xs.getD k 0 := ⟨_, rfl⟩
      have hck : wr.cell? ⟨b, o + k, none⟩ = some (.int .i64 x) := by rw [hx]; exact (hb.cell (p := ⟨b, o + k, none⟩) hbs).trans (hcell k hlt)
      have HX : Hid _ := hx
      by_cases hin1 : 0 ≤ x ∧ x < 4294967296
      · obtain ⟨hx0, hx1⟩ := hin1
        have hn0 : ¬ (x < 0) := by omega
        have hn1 : ¬ (4294967295 < x) := by omega
        have hcv : IntKind.u32.wrap x = x := by simp [IntKind.wrap, IntKind.signed, IntKind.bits]; omega
        have hfz := h1.frozen k
        obtain ⟨u, hu⟩ : ∃ u, wr.cell? ⟨w.heap.size + 1, k, none⟩ = some u := by
          rw [h1.cell k]
          exact ⟨_, List.getElem?_eq_getElem (by simp only [List.length_map]; omega)⟩
        have h1' := h1.set k (.int .u32 x)
        rw [set_fill xs 8 k x (by omega) hl hx] at h1'
        have h0' := h0.other ⟨w.heap.size + 1, k, none⟩ (.int .u32 x) (by simp)
        have hb' := hb.setCell (p := ⟨w.heap.size + 1, k, none⟩) (by simp) (.int .u32 x)
        have hin' : ∀ j, j < k + 1 → 0 ≤ xs.getD j 0 ∧ xs.getD j 0 < 4294967296 := by
          intro j hj
          by_cases e : j = k
          · subst e; rw [← hx]; exact ⟨hx0, hx1⟩
          · exact hin j (by omega)
        have H1 : Hid _ := h1'
        have H0 : Hid _ := h0'
        have HB : Hid _ := hb'
        have HI : Hid _ := hin'
        clear h1' h0' hb' hin' h0 h1 hb hin hcell hx
        go_wp2
        go_roundw
        case rel => exact ⟨k + 1, by omega, by go_num, H0.out, H1.out, HB.out, HI.out⟩
        case measure => simp [intOf]; omega
      · have hno := isW_no (xs := xs) (k := k) (by omega) (by rw [← hx]; omega)
        have HN : Hid _ := hno
        obtain ⟨y, hy⟩ : ∃ y, y = xs.take k ++ List.replicate (8 - k) 0 := ⟨_, rfl⟩
        rw [← hy] at h1 hlen
        have h0' := h0.row (U32 y)
        have hb' := setRow_below hb w.heap.size (U32 y).toArray (Nat.le_refl _)
        have hsz := Tryd.infoSw
        clear hy hno hx hin
        by_cases hx0 : x < 0
        · go_wp2_with (first
            | (refine wpList_load_row rfl 134 _ rfl (w.heap.size + 1) rfl 134 (U32 y).toArray (0, 0) _ h1 Tryd.underlying134 rfl (by simpa [hlen] using hsz) ?_)
            | (refine wpList_store_row rfl 134 _ _ rfl w.heap.size (U32 y).toArray rfl rfl 134 _ h0 (by simpa [hlen] using hsz) (by simp [hlen]) (by simp [Value.oneCell']) ?_))
          exact bodyPost_ret (results_row_tmp (v := .bool false) rfl rfl rfl h0' Tryd.underlying134 rfl (by simpa [hlen] using hsz)) rfl ⟨y, by rw [HN.out], hlen, (fun h => by rw [HN.out] at h; cases h), hb'⟩
        · have hx1 : 4294967295 < x := by omega
          go_wp2_with (first
            | (refine wpList_load_row rfl 134 _ rfl (w.heap.size + 1) rfl 134 (U32 y).toArray (0, 0) _ h1 Tryd.underlying134 rfl (by simpa [hlen] using hsz) ?_)
            | (refine wpList_store_row rfl 134 _ _ rfl w.heap.size (U32 y).toArray rfl rfl 134 _ h0 (by simpa [hlen] using hsz) (by simp [hlen]) (by simp [Value.oneCell']) ?_))
          exact bodyPost_ret (results_row_tmp (v := .bool false) rfl rfl rfl h0' Tryd.underlying134 rfl (by simpa [hlen] using hsz)) rfl ⟨y, by rw [HN.out], hlen, (fun h => by rw [HN.out] at h; cases h), hb'⟩
    · have hkn : k = 8 := by omega
      subst hkn
      have hyes : isW xs = true := (isW_iff xs).2 ⟨hl, all_upto (fun j hj => hin j (by omega))⟩
      have e : xs.take 8 ++ List.replicate (8 - 8) 0 = xs := by simp [List.take_of_length_le (show xs.length ≤ 8 by omega)]
      rw [e] at h1
      have h0' := h0.row (U32 xs)
      have hb' := setRow_below hb w.heap.size (U32 xs).toArray (Nat.le_refl _)
      have hsz := Tryd.infoSw
      have HY : Hid _ := hyes
      clear e hlen hin hyes
      go_wp2_with (first
        | (refine wpList_load_row rfl 134 _ rfl (w.heap.size + 1) rfl 134 (U32 xs).toArray (0, 0) _ h1 Tryd.underlying134 rfl (by simpa [hl] using hsz) ?_)
        | (refine wpList_store_row rfl 134 _ _ rfl w.heap.size (U32 xs).toArray rfl rfl 134 _ h0 (by simpa [hl] using hsz) (by simp [hl]) (by simp [Value.oneCell']) ?_))
      exact bodyPost_ret (results_row_tmp (v := .bool true) rfl rfl rfl h0' Tryd.underlying134 rfl (by simpa [hl] using hsz)) rfl ⟨xs, by rw [HY.out], hl, (fun _ => rfl), hb'⟩

end Go.Proofs.YtofflhhlacdgfaaDoor

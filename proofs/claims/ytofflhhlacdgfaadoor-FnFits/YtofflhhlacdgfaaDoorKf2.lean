/-
  What is proved here: what the specification's l8bentKeys and DrawKeyFor answer: some keys.
-/
import Derived.Test.YtofflhhlacdgfaaDoorKf1
import Derived.Test.YtofflhhlacdgfaaDoorCu
import Derived.Test.YtofflhhlacdgfaaDoorDr
namespace Go.Proofs.YtofflhhlacdgfaaDoor
open Go.RowKit
set_option maxRecDepth 100000
set_option maxHeartbeats 4000000
set_option linter.unusedVariables false

theorem own_pk {W W' : World} {lo p e s n : Nat} {v : Value} {xs : List Value} (h : W.ownsRow lo e s v n xs) (hp : p < lo) (hg : W.grownBy W' (some p)) : W'.ownsRow lo e s v n xs :=
  h.kept hg (by
    cases hv : v.ownBlock with
    | none => exact .inl rfl
    | some j => exact .inr (fun e => by have := (World.ownsRow.lt h j hv).1; injection e with e; omega))
theorem Pubs.p {lo p k : Nat} {W W' : World} {l : List L4} (h : Pubs lo W l k) (hp : p < lo) (hg : W.grownBy W' (some p)) : Pubs lo W' l k := fun q hq => by
  obtain ⟨i, r, b, a, c, xs, e, o, hx⟩ := h q hq
  exact ⟨i, r, b, a, c, xs, e, own_pk o hp hg, hx⟩
theorem bs_tailK {w : World} {b o n c : Nat} {xs : List Int} (h : Bs w (some ⟨b, o, none⟩) (n + 1) c xs) : Bs w (some ⟨b, o + 1, none⟩) n (c - 1) xs.tail := by
  obtain ⟨_, hl, hc, hby, hr⟩ := h
  have hr' : b < w.heap.size ∧ ∀ j, j < n + 1 → w.cell? ⟨b, o + j, none⟩ = some (.int .u8 (xs.getD j 0)) := by
    rcases hr with hr | ⟨b', o', e, hlt, hcell⟩
    · omega
    · cases e; exact ⟨hlt, hcell⟩
  refine ⟨(fun h => by cases h), by rw [List.length_tail, hl]; rfl, by omega, fun x hx => hby x (List.mem_of_mem_tail hx), .inr ⟨b, o + 1, rfl, hr'.1, fun j hj => ?_⟩⟩
  have e : xs.tail.getD j 0 = xs.getD (j + 1) 0 := by cases xs <;> rfl
  rw [e, Nat.add_assoc, Nat.add_comm 1 j]
  exact hr'.2 (j + 1) (by omega)
/-- A key in a row; its bytes lie elsewhere. -/
abbrev KyAt (W : World) (lo g q : Nat) : Prop := ∃ (x : KeyM) (ha : Option Addr) (hc : Nat), KeyAt W g (q * 4) x ha hc ∧ x.p.length = 32 ∧ ∀ b o, ha = some ⟨b, o, none⟩ → b ≠ g ∧ lo ≤ b
abbrev KyL (W : World) (lo g q : Nat) : Prop := ∃ (x : KeyM) (ha : Option Addr) (hc : Nat), KeyAt W g (q * 4) x ha hc ∧ ∀ b o, ha = some ⟨b, o, none⟩ → lo ≤ b
theorem ks_all {W : World} {lo g cap : Nat} (h : ∀ q, q < 4 → KyL W lo g q) (hg : g < W.heap.size) (hcap : 4 ≤ cap) : ∃ ks, Ks W (some ⟨g, 0, none⟩) 4 cap ks := by
  obtain ⟨x0, a0, c0, h0, _⟩ := h 0 (by omega)
  obtain ⟨x1, a1, c1, h1, _⟩ := h 1 (by omega)
  obtain ⟨x2, a2, c2, h2, _⟩ := h 2 (by omega)
  obtain ⟨x3, a3, c3, h3, _⟩ := h 3 (by omega)
  refine ⟨[x0, x1, x2, x3], (fun h => by cases h), rfl, hcap, .inr ⟨g, 0, rfl, hg, fun i hi => ?_⟩⟩
  have hi2 : i = 0 ∨ i = 1 ∨ i = 2 ∨ i = 3 := by omega
  rcases hi2 with rfl | rfl | rfl | rfl
  · exact ⟨a0, c0, h0⟩
  · exact ⟨a1, c1, h1⟩
  · exact ⟨a2, c2, h2⟩
  · exact ⟨a3, c3, h3⟩
theorem ky_of {W : World} {lo g cap : Nat} {l : List L4} (O : W.ownsRow lo 57 4 (.slice (some ⟨g, 0, none⟩) 4 cap) 4 (QL l)) (hl : l.length = 4) (P : Pubs lo W l 4) : ∀ q, q < 4 → KyAt W lo g q := fun q hq => by
  obtain ⟨i, r, b, a, c, xs, e, o, hx, h32⟩ := P q hq
  obtain ⟨g0, g1, g2, g3⟩ := QL_get l q (by omega)
  rw [e] at g0 g1 g2 g3
  refine ⟨⟨i, r, b, xs⟩, a, c, ⟨(O.cellAt _ (by omega)).trans g0, (O.cellAt _ (by omega)).trans g1, (O.cellAt _ (by omega)).trans g2, (O.cellAt _ (by omega)).trans g3, bs_of_own o hx⟩, h32, fun b' o' e' => ?_⟩
  have hlo := World.ownsRow.lt o b' (by rw [e']; rfl)
  have := own_types O o (by decide)
  rw [e'] at this
  refine ⟨?_, hlo.1⟩
  rcases this with h | h
  · cases h
  · intro hb
    exact h (by simp [Value.ownBlock, hb])
theorem cell_put {W : World} {g k j : Nat} {u : Value} (hk : (W.cell? ⟨g, k, none⟩).isSome = true) : (W.setCell ⟨g, k, none⟩ u).cell? ⟨g, j, none⟩ = if j = k then some u else W.cell? ⟨g, j, none⟩ := by
  by_cases e : j = k
  · subst e
    rw [if_pos rfl]
    have := World.cell?_setCells_in g [u] j W (fun q hq => by have : q = 0 := by simpa using hq
                                                              subst this; exact hk) 0 (by simp)
    exact this
  · rw [if_neg e]
    exact World.cell?_setCells_out g [u] k W ⟨g, j, none⟩ (fun _ _ => by show j < k ∨ k + 1 ≤ j; omega)
theorem bs_put {W : World} {g k n c : Nat} {u : Value} {a : Option Addr} {xs : List Int} (h : Bs W a n c xs) (hne : ∀ b o, a = some ⟨b, o, none⟩ → b ≠ g) : Bs (W.setCell ⟨g, k, none⟩ u) a n c xs := by
  obtain ⟨h0, h1, h2, h3, h4⟩ := h
  refine ⟨h0, h1, h2, h3, ?_⟩
  rcases h4 with h4 | ⟨b, o, e, hlt, hc⟩
  · exact .inl h4
  · have := hne b o e
    exact .inr ⟨b, o, e, by simp only [World.size_setCell]; exact hlt, fun j hj => (World.cell?_setCells_out g [u] k W ⟨b, o + j, none⟩ (fun hb _ => absurd hb this)).trans (hc j hj)⟩
theorem ky_far {W : World} {lo g q k : Nat} {u : Value} (h : KyAt W lo g q) (hk : (W.cell? ⟨g, k, none⟩).isSome = true) (hf : k < q * 4 ∨ q * 4 + 4 ≤ k) : KyL (W.setCell ⟨g, k, none⟩ u) lo g q := by
  obtain ⟨x, ha, hc, K, _, hne⟩ := h
  refine ⟨x, ha, hc, ⟨?_, ?_, ?_, ?_, bs_put K.by_ (fun b o e => (hne b o e).1)⟩, fun b o e => (hne b o e).2⟩
  · rw [cell_put hk, if_neg (by omega)]; exact K.i
  · rw [cell_put hk, if_neg (by omega)]; exact K.r
  · rw [cell_put hk, if_neg (by omega)]; exact K.v
  · rw [cell_put hk, if_neg (by omega)]; exact K.p
theorem ky_0 {W : World} {lo g q : Nat} {y : Int} (h : KyAt W lo g q) : KyL (W.setCell ⟨g, q * 4, none⟩ (.int .i64 y)) lo g q := by
  obtain ⟨x, ha, hc, K, _, hne⟩ := h
  have hk : (W.cell? ⟨g, q * 4, none⟩).isSome = true := by rw [K.i]; rfl
  refine ⟨⟨y, x.r, x.v, x.p⟩, ha, hc, ⟨?_, ?_, ?_, ?_, bs_put K.by_ (fun b o e => (hne b o e).1)⟩, fun b o e => (hne b o e).2⟩
  · rw [cell_put hk, if_pos rfl]
  · rw [cell_put hk, if_neg (by omega)]; exact K.r
  · rw [cell_put hk, if_neg (by omega)]; exact K.v
  · rw [cell_put hk, if_neg (by omega)]; exact K.p
theorem ky_1 {W : World} {lo g q : Nat} {y : Int} (h : KyAt W lo g q) : KyL (W.setCell ⟨g, q * 4 + 1, none⟩ (.int .i64 y)) lo g q := by
  obtain ⟨x, ha, hc, K, _, hne⟩ := h
  have hk : (W.cell? ⟨g, q * 4 + 1, none⟩).isSome = true := by rw [K.r]; rfl
  refine ⟨⟨x.i, y, x.v, x.p⟩, ha, hc, ⟨?_, ?_, ?_, ?_, bs_put K.by_ (fun b o e => (hne b o e).1)⟩, fun b o e => (hne b o e).2⟩
  · rw [cell_put hk, if_neg (by omega)]; exact K.i
  · rw [cell_put hk, if_pos rfl]
  · rw [cell_put hk, if_neg (by omega)]; exact K.v
  · rw [cell_put hk, if_neg (by omega)]; exact K.p
theorem ky_2 {W : World} {lo g q : Nat} {y : Bool} (h : KyAt W lo g q) : KyL (W.setCell ⟨g, q * 4 + 2, none⟩ (.bool y)) lo g q := by
  obtain ⟨x, ha, hc, K, _, hne⟩ := h
  have hk : (W.cell? ⟨g, q * 4 + 2, none⟩).isSome = true := by rw [K.v]; rfl
  refine ⟨⟨x.i, x.r, y, x.p⟩, ha, hc, ⟨?_, ?_, ?_, ?_, bs_put K.by_ (fun b o e => (hne b o e).1)⟩, fun b o e => (hne b o e).2⟩
  · rw [cell_put hk, if_neg (by omega)]; exact K.i
  · rw [cell_put hk, if_neg (by omega)]; exact K.r
  · rw [cell_put hk, if_pos rfl]
  · rw [cell_put hk, if_neg (by omega)]; exact K.p
theorem ky_3 {W : World} {lo g q b o hc : Nat} {x : KeyM} (K : KeyAt W g (q * 4) x (some ⟨b, o, none⟩) hc) (h32 : x.p.length = 32) (hne : b ≠ g) (hlo : lo ≤ b) : KyL (W.setCell ⟨g, q * 4 + 3, none⟩ (.slice (some ⟨b, o + 1, none⟩) 31 (hc - 1))) lo g q := by
  have hk : (W.cell? ⟨g, q * 4 + 3, none⟩).isSome = true := by rw [K.p]; rfl
  have hb := K.by_
  rw [h32] at hb
  have ht := bs_tailK (n := 31) hb
  have hl : x.p.tail.length = 31 := by rw [List.length_tail, h32]
  refine ⟨⟨x.i, x.r, x.v, x.p.tail⟩, some ⟨b, o + 1, none⟩, hc - 1, ⟨?_, ?_, ?_, ?_, ?_⟩, fun b' o' e => by cases e; exact hlo⟩
  · rw [cell_put hk, if_neg (by omega)]; exact K.i
  · rw [cell_put hk, if_neg (by omega)]; exact K.r
  · rw [cell_put hk, if_neg (by omega)]; exact K.v
  · rw [cell_put hk, if_pos rfl]
    show some (Value.slice _ 31 _) = some (Value.slice _ x.p.tail.length _)
    rw [hl]
  · show Bs _ _ x.p.tail.length _ x.p.tail
    rw [hl]
    exact bs_put ht (fun b' o' e => by cases e; exact hne)
theorem KyL.p {W W' : World} {lo g q p : Nat} (h : KyL W lo g q) (hg : lo ≤ g) (hgl : g < W.heap.size) (hp : p < lo) (hw : W.grownBy W' (some p)) : KyL W' lo g q := by
  obtain ⟨x, ha, hc, K, hlo⟩ := h
  have e := hw.block g hgl (by intro e; injection e with e; omega)
  refine ⟨x, ha, hc, ⟨(World.cell?_of_block (a := ⟨g, _, none⟩) e).trans K.i, (World.cell?_of_block (a := ⟨g, _, none⟩) e).trans K.r, (World.cell?_of_block (a := ⟨g, _, none⟩) e).trans K.v, (World.cell?_of_block (a := ⟨g, _, none⟩) e).trans K.p, ?_⟩, hlo⟩
  obtain ⟨h0, h1, h2, h3, h4⟩ := K.by_
  refine ⟨h0, h1, h2, h3, ?_⟩
  rcases h4 with h4 | ⟨b, o, eb, hlt, hcell⟩
  · exact .inl h4
  · have := hlo b o eb
    have e2 := hw.block b hlt (by intro e; injection e with e; omega)
    exact .inr ⟨b, o, eb, Nat.lt_of_lt_of_le hlt hw.size, fun j hj => (World.cell?_of_block (a := ⟨b, o + j, none⟩) e2).trans (hcell j hj)⟩
structure D8 (w W : World) (p : Nat) (a : Option Addr) (n c : Nat) : Prop where
  cu : Cur W p a n c
  gr : w.grownBy W (some p)
section
variable {w W W' : World} {p : Nat} {a : Option Addr} {n c : Nat}
theorem D8.draw (h : D8 w W p a n c) (hc : Cur W' p a n c) (hg : W.grownBy W' (some p)) : D8 w W' p a n c := ⟨hc, grown_into h.gr hg (fun k hk => .inr (by injection hk with hk; exact hk.symm))⟩
theorem D8.alloc (h : D8 w W p a n c) (o : Obj) : D8 w (W.alloc o) p a n c := ⟨cur_keep h.cu (grown_alloc W o none) (by simp), grown_into h.gr (grown_alloc W o (some p)) (fun k hk => .inr (by injection hk with hk; exact hk.symm))⟩
theorem D8.below (h : D8 w W p a n c) (hb : Below W.heap.size W W') : D8 w W' p a n c := ⟨cur_keep h.cu (row := none) ⟨hb.os, hb.tape, hb.output, hb.size, fun i hi _ => hb.block i hi⟩ (by simp), grown_into h.gr (show W.grownBy W' (some p) from ⟨hb.os, hb.tape, hb.output, hb.size, fun i hi _ => hb.block i hi⟩) (fun k hk => .inr (by injection hk with hk; exact hk.symm))⟩
theorem D8.set (h : D8 w W p a n c) {g : Nat} (hg : w.heap.size ≤ g) (hp : p < w.heap.size) (j : Nat) (v : Value) : D8 w (W.setCell ⟨g, j, none⟩ v) p a n c :=
  ⟨cur_keep h.cu (cur_grown2 W g v j) (by intro e; injection e with e; omega), grown_into h.gr (cur_grown2 W g v j) (fun k hk => .inl (by injection hk with hk; omega))⟩
end
theorem curBentKeys (p : Nat) (a : Option Addr) (n c : Nat) (xs : List Int) (w : World) (hcur : Cur w p a n c) (hcode : Coded w p a n c xs) :
    Calls Tryd.prog 83 #[.pointer (some ⟨p, 0, none⟩)] w fun e w' => ∃ (g cap : Nat), e = .returned (.slice (some ⟨g, 0, none⟩) 4 cap) ∧ w.heap.size ≤ g ∧ g < w'.heap.size ∧ 4 ≤ cap ∧ (∀ q, q < 4 → KyL w' w.heap.size g q) ∧ Cur w' p a n c ∧ w.grownBy w' (some p) := by
  have hp0 := cur_lt hcur
  have D : D8 w w p a n c := ⟨hcur, World.grownBy.refl _ _⟩
  go_enter Tryd.func83, Tryd.ntmps83
  clear hcur
  go_wp2_with fail
  refine (specL8keys _).mono ?_
  rintro e w1 ⟨v, l, rfl, O, hl, hP, hb⟩
  replace D := D.below hb
  obtain ⟨g, cap, rfl, hgs, hcap⟩ : ∃ g cap, v = .slice (some ⟨g, 0, none⟩) 4 cap ∧ w.heap.size ≤ g ∧ 4 ≤ cap := by
    rcases O.2 with ⟨_, h⟩ | ⟨g, cap, cur, rfl, hg, _, h1, _⟩
    · omega
    · exact ⟨g, cap, rfl, hg, h1⟩
  have HO : Hid (w1.ownsRow w.heap.size 57 4 (.slice (some ⟨g, 0, none⟩) 4 cap) 4 (QL l)) := O
  have HP : Hid (Pubs w.heap.size w1 l 4) := hP
  have HL : Hid (l.length = 4) := hl
  clear O hl hP hb
  go_wp2_with fail
  refine (curOnce p a n c xs _ _ D.cu (hcode.grown D.gr) (by omega)).mono ?_
  rintro e w2 ⟨q, rfl, hc, hg⟩
  replace D := D.draw hc hg
  replace HO : Hid (w2.ownsRow w.heap.size 57 4 (.slice (some ⟨g, 0, none⟩) 4 cap) 4 (QL l)) := own_pk HO.out hp0 hg
  replace HP : Hid (Pubs w.heap.size w2 l 4) := HP.out.p hp0 hg
  clear hc hg
  cases q
  · have HK : Hid (∀ q, q < 4 → KyL w2 w.heap.size g q) := fun q hq => by obtain ⟨x, ha, hc, K, _, hne⟩ := ky_of HO.out HL.out HP.out q hq; exact ⟨x, ha, hc, K, fun b o e => (hne b o e).2⟩
    have hgl := (World.ownsRow.lt HO.out g rfl).2
    go_wp2
    go_ret
    exact ⟨g, cap, rfl, hgs, hgl, hcap, HK.out, D.cu, D.gr⟩
  go_wp2_with fail
  refine (curBelow p a n c xs _ _ D.cu (hcode.grown D.gr) (by omega)).mono ?_
  rintro e w3 ⟨x, rfl, h0_x, h1_x, _, hc, hg⟩
  replace h1_x := h1_x (by omega)
  replace D := D.draw hc hg
  replace HO : Hid (w3.ownsRow w.heap.size 57 4 (.slice (some ⟨g, 0, none⟩) 4 cap) 4 (QL l)) := own_pk HO.out hp0 hg
  replace HP : Hid (Pubs w.heap.size w3 l 4) := HP.out.p hp0 hg
  clear hc hg
  have hx : x = 0 ∨ x = 1 ∨ x = 2 ∨ x = 3 := by omega
  rcases hx with rfl | rfl | rfl | rfl
  · go_wp2_with fail
    have cl := cells_arr w3 [0, -1, 256] 3
    refine (curPick p a n c xs _ 3 [0, -1, 256] _ (cur_keep D.cu (grown_alloc _ _ none) (by simp)) ((hcode.grown D.gr).grown (grown_alloc _ _ (some p))) rfl (by omega) (by omega) (by have := cur_lt D.cu; omega) (fun j hj => cl j hj)).mono ?_
    rintro e w4 ⟨y, rfl, _, hc, hg⟩
    replace D := (D.alloc _).draw hc hg
    replace HO : Hid (w4.ownsRow w.heap.size 57 4 (.slice (some ⟨g, 0, none⟩) 4 cap) 4 (QL l)) := own_pk (World.ownsRow.alloc HO.out _) hp0 hg
    replace HP : Hid (Pubs w.heap.size w4 l 4) := (HP.out.below ((Below.refl _ _).alloc (Nat.le_refl _) _)).p hp0 hg
    clear hc hg cl
    have hF := HO.out.frozenAt 4
    have KY := ky_of HO.out HL.out HP.out
    have hgl := (World.ownsRow.lt HO.out g rfl).2
    obtain ⟨x9, a9, c9, K9, h9, n9⟩ := KY 1 (by omega)
    have e0 := K9.i
    have e1 := K9.r
    have e2 := K9.v
    have e3 := K9.p
    simp at e0 e1 e2 e3
    have HK : Hid (∀ q, q < 4 → KyL (w4.setCell ⟨g, 4, none⟩ (.int .i64 y)) w.heap.size g q) := (fun q hq => by
      by_cases e : q = 1
      · subst e
        exact ky_0 (KY 1 (by omega))
      · exact ky_far (KY q hq) (by first | (rw [e0]; rfl) | (rw [e1]; rfl) | (rw [e2]; rfl) | (rw [e3]; rfl)) (by omega))
    have HD : Hid _ := D.set hgs hp0 4 (.int .i64 y)
    clear K9 KY D HO HP
    go_wp2
    go_ret
    exact ⟨g, cap, rfl, hgs, by simp only [World.size_setCell]; exact hgl, hcap, HK.out, HD.out.cu, HD.out.gr⟩
  · go_wp2_with fail
    have cl := cells_arr w3 [0, 1, 3] 3
    refine (curPick p a n c xs _ 3 [0, 1, 3] _ (cur_keep D.cu (grown_alloc _ _ none) (by simp)) ((hcode.grown D.gr).grown (grown_alloc _ _ (some p))) rfl (by omega) (by omega) (by have := cur_lt D.cu; omega) (fun j hj => cl j hj)).mono ?_
    rintro e w4 ⟨y, rfl, _, hc, hg⟩
    replace D := (D.alloc _).draw hc hg
    replace HO : Hid (w4.ownsRow w.heap.size 57 4 (.slice (some ⟨g, 0, none⟩) 4 cap) 4 (QL l)) := own_pk (World.ownsRow.alloc HO.out _) hp0 hg
    replace HP : Hid (Pubs w.heap.size w4 l 4) := (HP.out.below ((Below.refl _ _).alloc (Nat.le_refl _) _)).p hp0 hg
    clear hc hg cl
    have hF := HO.out.frozenAt 1
    have KY := ky_of HO.out HL.out HP.out
    have hgl := (World.ownsRow.lt HO.out g rfl).2
    obtain ⟨x9, a9, c9, K9, h9, n9⟩ := KY 0 (by omega)
    have e0 := K9.i
    have e1 := K9.r
    have e2 := K9.v
    have e3 := K9.p
    simp at e0 e1 e2 e3
    have HK : Hid (∀ q, q < 4 → KyL (w4.setCell ⟨g, 1, none⟩ (.int .i64 y)) w.heap.size g q) := (fun q hq => by
      by_cases e : q = 0
      · subst e
        exact ky_1 (KY 0 (by omega))
      · exact ky_far (KY q hq) (by first | (rw [e0]; rfl) | (rw [e1]; rfl) | (rw [e2]; rfl) | (rw [e3]; rfl)) (by omega))
    have HD : Hid _ := D.set hgs hp0 1 (.int .i64 y)
    clear K9 KY D HO HP
    go_wp2
    go_ret
    exact ⟨g, cap, rfl, hgs, by simp only [World.size_setCell]; exact hgl, hcap, HK.out, HD.out.cu, HD.out.gr⟩
  · have KY0 := ky_of HO.out HL.out HP.out 0 (by omega)
    obtain ⟨xk, ak, ck, Kk, h32k, nek⟩ := KY0
    obtain ⟨bk, ok, rfl⟩ : ∃ bk ok, ak = some ⟨bk, ok, none⟩ := by
      rcases Kk.by_.2.2.2.2 with h | ⟨b, o, e, _⟩
      · omega
      · exact ⟨b, o, e⟩
    have hck : 32 ≤ ck := by have := Kk.by_.2.2.1; omega
    have hcp := Kk.p
    rw [h32k] at hcp
    have i1 : (1 : Int) ≤ (ck : Int) := by omega
    have i2 : (32 : Int) ≤ (ck : Int) := by omega
    have hF := HO.out.frozenAt 3
    have KY := ky_of HO.out HL.out HP.out
    have hgl := (World.ownsRow.lt HO.out g rfl).2
    simp at hcp
    have HK : Hid (∀ q, q < 4 → KyL (w3.setCell ⟨g, 3, none⟩ (.slice (some ⟨bk, ok + 1, none⟩) 31 (ck - 1))) w.heap.size g q) := (fun q hq => by
      by_cases e : q = 0
      · subst e
        exact ky_3 (q := 0) Kk h32k (nek bk ok rfl).1 (nek bk ok rfl).2
      · exact ky_far (KY q hq) (by rw [hcp]; rfl) (by omega))
    have HD : Hid _ := D.set hgs hp0 3 (.slice (some ⟨bk, ok + 1, none⟩) 31 (ck - 1))
    clear Kk KY D HO HP
    go_wp2
    go_ret
    exact ⟨g, cap, rfl, hgs, by simp only [World.size_setCell]; exact hgl, hcap, HK.out, HD.out.cu, HD.out.gr⟩
  · have hF := HO.out.frozenAt 2
    have KY := ky_of HO.out HL.out HP.out
    have hgl := (World.ownsRow.lt HO.out g rfl).2
    obtain ⟨x9, a9, c9, K9, h9, n9⟩ := KY 0 (by omega)
    have e0 := K9.i
    have e1 := K9.r
    have e2 := K9.v
    have e3 := K9.p
    simp at e0 e1 e2 e3
    have HK : Hid (∀ q, q < 4 → KyL (w3.setCell ⟨g, 2, none⟩ (.bool true)) w.heap.size g q) := (fun q hq => by
      by_cases e : q = 0
      · subst e
        exact ky_2 (KY 0 (by omega))
      · exact ky_far (KY q hq) (by first | (rw [e0]; rfl) | (rw [e1]; rfl) | (rw [e2]; rfl) | (rw [e3]; rfl)) (by omega))
    have HD : Hid _ := D.set hgs hp0 2 (.bool true)
    clear K9 KY D HO HP
    go_wp2
    go_ret
    exact ⟨g, cap, rfl, hgs, by simp only [World.size_setCell]; exact hgl, hcap, HK.out, HD.out.cu, HD.out.gr⟩
theorem drawKeyFor (a : Option Addr) (n c : Nat) (xs : List Int) (w : World) (h : Bs w a n c xs) (hm : n ≤ 9223372036854775807) :
    Calls Tryd.prog 28 #[.slice a n c] w fun e w' => ∃ (g cap : Nat) (ks : List KeyM) (id : Int), e = .returned (.tuple #[.slice (some ⟨g, 0, none⟩) 4 cap, .int .i64 id]) ∧ Ks w' (some ⟨g, 0, none⟩) 4 cap ks ∧ Below w.heap.size w w' := by
  have HBs : Hid (Bs w a n c xs) := h
  go_enter Tryd.func28, Tryd.ntmps28
  clear h
  go_wp2_with fail
  refine (curNew a n c xs _ HBs.out hm).mono ?_
  rintro e w1 ⟨rfl, hc1, hd1, hs1, hb1⟩
  obtain ⟨p, hp⟩ : ∃ p, p = w.heap.size := ⟨_, rfl⟩
  rw [← hp] at hc1 hd1 ⊢
  have hcode := hd1
  have D : D8 w1 w1 p a n c := ⟨hc1, World.grownBy.refl _ _⟩
  have hp0 := cur_lt hc1
  have HW : Hid (Below w.heap.size w w1) := hb1
  have HP : Hid (w.heap.size ≤ p) := by unfold Hid; omega
  clear hc1 hd1 hs1 hb1 hp HBs
  go_wp2_with fail
  refine (curBentKeys p a n c xs _ D.cu (hcode.grown D.gr)).mono ?_
  rintro e w2 ⟨g, cap, rfl, hgs, hgl, hcap, hK, hc, hg⟩
  replace D := D.draw hc hg
  have HK : Hid (∀ q, q < 4 → KyL w2 w1.heap.size g q) := hK
  clear hc hg hK
  go_wp2_with fail
  refine (curBelow p a n c xs _ _ D.cu (hcode.grown D.gr) (by omega)).mono ?_
  rintro e w3 ⟨x, rfl, h0_x, h1_x, _, hc, hg⟩
  replace h1_x := h1_x (by omega)
  replace D := D.draw hc hg
  obtain ⟨ks, hK⟩ := ks_all (lo := w1.heap.size) (fun q hq => (HK.out q hq).p hgs hgl hp0 hg) (Nat.lt_of_lt_of_le hgl hg.size) hcap
  have HKs : Hid (Ks w3 (some ⟨g, 0, none⟩) 4 cap ks) := hK
  have BB := HW.out.grown D.gr HW.out.size (fun k hk => by injection hk with hk; have := HP.out; omega)
  have hw : IntKind.i64.wrap (x - 1) = x - 1 := wr64 (by omega) (by omega)
  clear hc hg hK HK D
  go_wp2
  go_ret2
  exact ⟨g, cap, ks, _, rfl, HKs.out, BB⟩
end Go.Proofs.YtofflhhlacdgfaaDoor

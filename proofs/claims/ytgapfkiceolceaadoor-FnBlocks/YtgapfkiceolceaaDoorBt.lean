/-
  What is proved here: the contract of the specification's l2bent: a value of the call's own whose slice of words holds at most eight ints; nothing that was there turns but the cursor; for every code.
-/
import Derived.Test.YtgapfkiceolceaaDoorQa
import Derived.Test.YtgapfkiceolceaaDoorSj
namespace Go.Proofs.YtgapfkiceolceaaDoor
set_option maxRecDepth 100000
open Go.RowKit

theorem Sh.draw {W W' : World} {lo P p : Nat} {aH : Option Addr} {nH cH : Nat} {N : Int} {aT : Option Addr} {nT cT : Nat} {hs ts : List Int} (h : Sh W lo P aH nH cH N aT nT cT hs ts) (hg : W.grownBy W' (some p)) (hp : p < lo) (hlp : lo ≤ P) : Sh W' lo P aH nH cH N aT nT cT hs ts := by
  refine ⟨?_, h.oh.kept hg ?_, h.ot.kept hg ?_, h.ap, h.ih, h.it⟩
  · unfold Arr
    rw [hg.block P h.p.lt (fun e => by have := Option.some.inj e; omega)]
    exact h.p
  · cases hv : Value.ownBlock (.slice aH nH cH) with
    | none => exact .inl rfl
    | some k => exact .inr (fun e => by have := (h.ih k hv).1; simp at e; omega)
  · cases hv : Value.ownBlock (.slice aT nT cT) with
    | none => exact .inl rfl
    | some k => exact .inr (fun e => by have := (h.it k hv).1; simp at e; omega)

theorem Is.far {w w' : World} {a : Option Addr} {n c : Nat} {xs : List Int} {g : Nat} (h : Is w a n c xs) (hg : w.grownBy w' (some g)) (ho : Off a g) : Is w' a n c xs := by
  obtain ⟨h0, h1, h2, h3, h4⟩ := h
  refine ⟨h0, h1, h2, h3, ?_⟩
  rcases h4 with h4 | ⟨b, o, ha, hlt, hc⟩
  · exact .inl h4
  · exact .inr ⟨b, o, ha, Nat.lt_of_lt_of_le hlt hg.size, fun j hj => (World.cell?_of_block (hg.block b hlt (fun e => ho b o none ha (by cases e; rfl)))).trans (hc j hj)⟩
theorem Is.drop {w : World} {b o : Nat} {n c m : Nat} {xs : List Int} (h : Is w (some ⟨b, o, none⟩) n c xs) (hm : m ≤ n) : Is w (some ⟨b, o + m, none⟩) (n - m) (c - m) (xs.drop m) := by
  obtain ⟨h0, h1, h2, h3, h4⟩ := h
  refine ⟨(fun h => by cases h), by simp; omega, by omega, fun x hx => h3 x (List.mem_of_mem_drop hx), ?_⟩
  by_cases hz : n - m = 0
  · exact .inl hz
  rcases h4 with h4 | ⟨b', o', ha, hlt, hc⟩
  · exact .inl (by omega)
  · cases ha
    refine .inr ⟨b, o + m, rfl, hlt, fun j hj => ?_⟩
    have := hc (m + j) (by omega)
    rw [show o + m + j = o + (m + j) by omega, this]
    simp [List.getD, List.getElem?_drop]

/-- Where the value stands ahead of its last store. -/
structure Be (w X : World) (p P : Nat) (a : Option Addr) (n c : Nat) (aH : Option Addr) (nH cH : Nat) (N : Int) (aT : Option Addr) (nT cT : Nat) (hs : List Int) : Prop where
  gr : w.grownBy X (some p)
  cur : Cur X p a n c
  p2 : Arr X w.heap.size 27 [.slice none 0 0, .int .i64 0, .slice none 0 0]
  p3 : Arr X P 27 [.slice aH nH cH, .int .i64 N, .slice aT nT cT]
  ih : Is X aH nH cH hs
  o1 : Off aH w.heap.size
  o2 : Off aH p
  le : nH ≤ 8

theorem set3_grown (X : World) (g : Nat) (v0 v1 v2 : Value) : X.grownBy (((X.setCell ⟨g, 0, none⟩ v0).setCell ⟨g, 1, none⟩ v1).setCell ⟨g, 2, none⟩ v2) (some g) :=
  grown_trans (grown_trans (cur_grown2 X g v0 0) (cur_grown2 _ g v1 1)) (cur_grown2 _ g v2 2)

/-- What l2bent leaves. -/
def Bent (w W : World) (p : Nat) (a : Option Addr) (n c : Nat) (v : Value) : Prop :=
  ∃ aH nH cH N aT nT cT hs, v = shaV aH nH cH N aT nT cT ∧ Is W aH nH cH hs ∧ Off aH p ∧ nH ≤ 8 ∧ Cur W p a n c ∧ w.grownBy W (some p)

theorem Be.last {w X : World} {p P : Nat} {a : Option Addr} {n c : Nat} {aH : Option Addr} {nH cH : Nat} {N : Int} {aT : Option Addr} {nT cT : Nat} {hs : List Int} (h : Be w X p P a n c aH nH cH N aT nT cT hs) (hp : p < w.heap.size) :
    Bent w (((X.setCell ⟨w.heap.size, 0, none⟩ (.slice aH nH cH)).setCell ⟨w.heap.size, 1, none⟩ (.int .i64 N)).setCell ⟨w.heap.size, 2, none⟩ (.slice aT nT cT)) p a n c (.agg #[.slice aH nH cH, .int .i64 N, .slice aT nT cT]) := by
  have hg := set3_grown X w.heap.size (.slice aH nH cH) (.int .i64 N) (.slice aT nT cT)
  exact ⟨aH, nH, cH, N, aT, nT, cT, hs, rfl, h.ih.far hg h.o1, h.o2, h.le, cur_keep h.cur hg (fun e => by have := Option.some.inj e; omega), grown_into h.gr hg (fun k hk => by have := Option.some.inj hk; omega)⟩
theorem Be.row {w X : World} {p P : Nat} {a : Option Addr} {n c : Nat} {aH : Option Addr} {nH cH : Nat} {N : Int} {aT : Option Addr} {nT cT : Nat} {hs : List Int} (h : Be w X p P a n c aH nH cH N aT nT cT hs) :
    Arr (((X.setCell ⟨w.heap.size, 0, none⟩ (.slice aH nH cH)).setCell ⟨w.heap.size, 1, none⟩ (.int .i64 N)).setCell ⟨w.heap.size, 2, none⟩ (.slice aT nT cT)) w.heap.size 27 [.slice aH nH cH, .int .i64 N, .slice aT nT cT] :=
  ((h.p2.set 0 (.slice aH nH cH)).set 1 (.int .i64 N)).set 2 (.slice aT nT cT)

theorem below_grown {w w' : World} (h : Below w.heap.size w w') (r : Option Nat) : w.grownBy w' r := ⟨h.os, h.tape, h.output, h.size, fun i hi _ => h.block i hi⟩
theorem own_cur {W W' : World} {B e s n p : Nat} {v : Value} {l : List Value} (h : W.ownsRow B e s v n l) (hp : p < B) (hg : W.grownBy W' (some p)) : W'.ownsRow B e s v n l :=
  h.kept hg (by
    cases hv : v.ownBlock with
    | none => exact .inl rfl
    | some k => exact .inr (fun e => by have := (h.lt k hv).1; simp at e; omega))
theorem Arr.cur {W W' : World} {g p : Nat} {t : TypeId} {cs : List Value} (h : Arr W g t cs) (hg : W.grownBy W' (some p)) (hne : g ≠ p) : Arr W' g t cs := by
  unfold Arr
  rw [hg.block g h.lt (fun e => hne (Option.some.inj e))]
  exact h

theorem Is.set0 {w : World} {g n c : Nat} {xs : List Int} (h : Is w (some ⟨g, 0, none⟩) n c xs) (hn : 0 < n) (x : Int) (hx : -9223372036854775808 ≤ x ∧ x ≤ 9223372036854775807) : Is (w.setCell ⟨g, 0, none⟩ (.int .i64 x)) (some ⟨g, 0, none⟩) n c (xs.set 0 x) := by
  obtain ⟨h0, h1, h2, h3, h4⟩ := h
  refine ⟨h0, by simpa using h1, h2, ?_, ?_⟩
  · intro y hy
    rcases List.mem_or_eq_of_mem_set hy with h | h
    · exact h3 y h
    · rw [h]; exact hx
  · rcases h4 with h4 | ⟨b, o, ha, hlt, hc⟩
    · omega
    · cases ha
      refine .inr ⟨g, 0, rfl, by simpa using hlt, fun j hj => ?_⟩
      by_cases hj0 : j = 0
      · subst hj0
        rw [show (⟨g, 0 + 0, none⟩ : Addr) = ⟨g, 0, none⟩ from rfl, World.cell?_setCell_same w ⟨g, 0, none⟩ (.int .i64 x) (hc 0 hj)]
        simp [List.getD, show 0 < xs.length by omega]
      · rw [World.cell?_setCell_other w ⟨g, 0, none⟩ ⟨g, 0 + j, none⟩ (.int .i64 x) (fun e => hj0 (by simpa using (Addr.mk.inj e).2.1.symm)), hc j hj]
        simp [List.getD, Ne.symm hj0]
/-- Where the value stands while it is bent. -/
structure Bq (w X : World) (p lo P : Nat) (a : Option Addr) (n c : Nat) (xs : List Int) (aH : Option Addr) (cH : Nat) (N : Int) (aT : Option Addr) (nT cT : Nat) (hs ts : List Int) : Prop where
  gr : w.grownBy X (some p)
  cur : Cur X p a n c
  cod : Coded X p a n c xs
  p2 : Arr X w.heap.size 27 [.slice none 0 0, .int .i64 0, .slice none 0 0]
  sh : Sh X lo P aH 8 cH N aT nT cT hs ts
  hp : p < w.heap.size
  hlo : w.heap.size < lo
  hlp : lo ≤ P
section
variable {w X X' : World} {p lo P : Nat} {a : Option Addr} {n c : Nat} {xs : List Int} {aH : Option Addr} {cH : Nat} {N : Int} {aT : Option Addr} {nT cT : Nat} {hs ts : List Int}
theorem Bq.draw (h : Bq w X p lo P a n c xs aH cH N aT nT cT hs ts) (hc : Cur X' p a n c) (hg : X.grownBy X' (some p)) : Bq w X' p lo P a n c xs aH cH N aT nT cT hs ts :=
  have h1 := h.hp
  have h2 := h.hlo
  ⟨grown_trans h.gr hg, hc, h.cod.grown hg, h.p2.cur hg (by omega), h.sh.draw hg (by omega) h.hlp, h.hp, h.hlo, h.hlp⟩
theorem Bq.alloc (h : Bq w X p lo P a n c xs aH cH N aT nT cT hs ts) (o : Obj) : Bq w (X.alloc o) p lo P a n c xs aH cH N aT nT cT hs ts :=
  ⟨grown_into h.gr (grown_alloc X o none) (by intro k hk; cases hk), cur_keep h.cur (grown_alloc X o none) (by simp), h.cod.grown (grown_alloc X o (some p)), h.p2.alloc o, h.sh.below ((Below.refl _ _).alloc (Nat.le_refl _) _), h.hp, h.hlo, h.hlp⟩
theorem Bq.drew (h : Bq w X p lo P a n c xs aH cH N aT nT cT hs ts) : Bq w X.drew p lo P a n c xs aH cH N aT nT cT hs ts :=
  ⟨⟨h.gr.os, h.gr.tape, h.gr.output, h.gr.size, h.gr.block⟩, h.cur, h.cod.grown ⟨rfl, rfl, rfl, Nat.le_refl _, fun _ _ _ => rfl⟩, h.p2.drew, h.sh.below (Below.refl _ _).drew, h.hp, h.hlo, h.hlp⟩
theorem Bq.off (h : Bq w X p lo P a n c xs aH cH N aT nT cT hs ts) {g : Nat} (hg : g < lo) : Off aH g := by
  intro b o s he hb
  subst he
  rcases (own_shapeI h.sh.oh).2 with ⟨h1, _⟩ | ⟨g', cap', h1, hg', _⟩
  · cases h1
  · cases h1
    omega
theorem Bq.be (h : Bq w X p lo P a n c xs aH cH N aT nT cT hs ts) (hi : ∀ x ∈ hs, -9223372036854775808 ≤ x ∧ x ≤ 9223372036854775807) : Be w X p P a n c aH 8 cH N aT nT cT hs :=
  have h1 := h.hp
  have h2 := h.hlo
  ⟨h.gr, h.cur, h.p2, h.sh.p, is_of_own h.sh.oh hi, h.off h2, h.off (by omega), Nat.le_refl _⟩
end

set_option maxHeartbeats 4000000 in
theorem curBent (p : Nat) (a : Option Addr) (n c : Nat) (xs : List Int) (w : World) (hcur : Cur w p a n c) (hcode : Coded w p a n c xs) :
    Calls Tryd.prog 62 #[.pointer (some ⟨p, 0, none⟩)] w fun e w' => ∃ v, e = .returned v ∧ Bent w w' p a n c v := by
  have hp0 := cur_lt hcur
  have HN := specShaNew
  have hwd : ∀ x ∈ H0, 0 ≤ x ∧ x < 4294967296 := H0_words
  have h8 := H0_len
  generalize H0 = H at HN hwd h8
  have HN' : Hid _ := HN
  have HWD : Hid _ := hwd
  have HSZ : (Tryd.prog.info? 27).map (·.size) = some 3 := by kernel_rfl
  clear HN hwd
  obtain ⟨W0, hW0⟩ : ∃ W0, W0 = w.alloc (.cells #[.slice none 0 0, .int .i64 0, .slice none 0 0] 27) := ⟨_, rfl⟩
  have A0 : Arr W0 w.heap.size 27 [.slice none 0 0, .int .i64 0, .slice none 0 0] := by rw [hW0]; exact Arr.new _ _ _
  have B0 : Below w.heap.size w W0 := by rw [hW0]; exact (Below.refl _ _).alloc (Nat.le_refl _) _
  have g0 : w.grownBy W0 (some p) := by rw [hW0]; exact grown_alloc _ _ _
  have hs0 : W0.heap.size = w.heap.size + 1 := by rw [hW0]; simp
  have c0 : Cur W0 p a n c := by rw [hW0]; exact cur_keep hcur (grown_alloc _ _ none) (by simp)
  go_enter Tryd.func62, Tryd.ntmps62
  go_wp2_with fail
  rw [show w.alloc (.cells #[.slice none 0 0, .int .i64 0, .slice none 0 0] 27) = W0 from hW0.symm]
  refine (HN'.out _).mono ?_
  rintro e w1 ⟨a1, k1, rfl, o1, b1⟩
  have g1 := grown_into g0 (below_grown b1 none) (by intro k hk; cases hk)
  have c1 := cur_keep c0 (below_grown b1 none) (by simp)
  have A1 := A0.kept b1
  have hs1 := b1.size
  clear b1 A0 B0 g0 hW0 c0
  go_wp2_with fail
  refine (curL2draw p a n c xs _ c1 (hcode.grown g1)).mono ?_
  rintro e w2 ⟨v2, L, rfl, hL, hLb, o2, c2, g2⟩
  obtain ⟨aL, cL, rfl, _, hx2⟩ := Bs.own o2 hLb
  have q1 := own_cur o1 (by omega) g2
  have A2 := A1.cur g2 (by omega)
  have g12 := grown_trans g1 g2
  have hs2 := g2.size
  clear o2 o1 A1 g1 c1 g2
  go_wp2_with fail
  refine (specAdd a1 k1 0 none 0 0 H [] aL L.length cL L _ (is_of_own q1 (words_int HWD.out)) HWD.out (bs_none _) hx2 (by omega) (by omega) (by omega) (by omega)).mono ?_
  rintro e w3 ⟨v3, rfl, s3, b3⟩
  obtain ⟨aH, cH, aT, cT, rfl, o3⟩ := s3
  have hAL : (allB H ([] ++ L)).length = 8 := fld_len h8 _ _
  have HAI : Hid (∀ x ∈ allB H ([] ++ L), -9223372036854775808 ≤ x ∧ x ≤ 9223372036854775807) := words_int (fld_word HWD.out _ _)
  have HTB : Hid (∀ x ∈ restB ([] ++ L), 0 ≤ x ∧ x < 256) := drop_byte (by rw [List.nil_append]; exact hLb)
  have hTL : (restB ([] ++ L)).length ≤ 299 := by have := restB_len ([] ++ L); rw [List.nil_append] at this ⊢; omega
  rw [hAL] at o3 ⊢
  have hM0 : (0 : Int) + (L.length : Int) ≤ 299 := by omega
  have hM1 : 0 ≤ (0 : Int) + (L.length : Int) := by omega
  generalize allB H ([] ++ L) = hs at o3 HAI
  generalize restB ([] ++ L) = ts at o3 HTB hTL ⊢
  generalize (0 : Int) + (L.length : Int) = N at hM0 hM1 ⊢
  obtain ⟨nT, hnT⟩ : ∃ m, m = ts.length := ⟨_, rfl⟩
  rw [← hnT] at o3 hTL ⊢
  have S3 := Sh.of_own o3 N
  have b3' := b3.alloc b3.size (.cells #[.slice aH 8 cH, .int .i64 N, .slice aT nT cT] 27)
  have Q3 : Bq w (w3.alloc (.cells #[.slice aH 8 cH, .int .i64 N, .slice aT nT cT] 27)) p w2.heap.size w3.heap.size a n c xs aH cH N aT nT cT hs ts :=
    ⟨grown_into g12 (below_grown b3' none) (by intro k hk; cases hk), cur_keep c2 (below_grown b3' none) (by simp), (hcode.grown g12).grown (below_grown b3' (some p)), A2.kept b3', S3, hp0, by omega, b3.size⟩
  obtain ⟨W3, hW3⟩ : ∃ W3, W3 = w3.alloc (.cells #[.slice aH 8 cH, .int .i64 N, .slice aT nT cT] 27) := ⟨_, rfl⟩
  obtain ⟨P, hP⟩ : ∃ P, P = w3.heap.size := ⟨_, rfl⟩
  obtain ⟨lo, hlo⟩ : ∃ lo, lo = w2.heap.size := ⟨_, rfl⟩
  rw [← hW3, ← hP, ← hlo] at Q3
  have HNT : Hid _ := hnT
  clear S3 b3' o3 b3 q1 A2 g12 c2 hx2 hLb hnT
  go_wp2_with fail
  rw [← hW3]
  rw [← hP]
  clear hW3 hP hlo hcode hcur
  refine (curOnce p a n c xs 7 _ Q3.cur Q3.cod (by omega)).mono ?_
  rintro e w4 ⟨q, rfl, c4, g4⟩
  have Q4 := Q3.draw c4 g4
  clear Q3 c4 g4
  cases q with
  | false =>
    have E4 := Q4.be HAI.out
    have d3 := arr3 Q4.sh.p
    have f2 := arr3 Q4.p2
    have ff := Q4.p2.frozen
    have HL : Hid _ := E4.last hp0
    have HR : Hid _ := E4.row
    clear Q4 E4
    go_wp2
    exact bodyPost_ret (results_cell_row rfl _ _ w.heap.size 27 _ (0, 0) _ rfl HR.out Tryd.underlying27 rfl HSZ) rfl ⟨_, rfl, HL.out⟩
  | true =>
    go_wp2_with fail
    refine (curBelow p a n c xs 4 _ Q4.cur Q4.cod (by omega)).mono ?_
    rintro e w5 ⟨k, rfl, hk0, hk1, _, c5, g5⟩
    have hk2 := hk1 (by omega)
    have Q5 := Q4.draw c5 g5
    have HG := (own_shapeI Q5.sh.oh).2
    obtain ⟨g, rfl, hglo, hgP, hg8, hgc, hgf⟩ : ∃ g, aH = some ⟨g, 0, none⟩ ∧ lo ≤ g ∧ g < P ∧ 8 ≤ cH ∧ w5.cell? ⟨g, 0, none⟩ = some (.int .i64 (hs.getD 0 0)) ∧ ∀ j, w5.frozen? ⟨g, j, none⟩ = false := by
      rcases HG with ⟨h1, _⟩ | ⟨g', cap', h1, hg', _, h3, _, h4, h5⟩
      · cases h1
      · cases h1
        exact ⟨g', rfl, hg', (Q5.sh.ih g' rfl).2, h3, h4 0 (by omega), h5⟩
    clear Q4 c5 g5 hk1 HG
    have hwlo := Q5.hlo
    have hloP := Q5.hlp
    by_cases e0 : k = 0
    · subst e0
      have d3 := arr3 Q5.sh.p
      have Q5d := Q5.drew
      have hsw := Q5.sh.p.lt
      go_wp2
      go_region_held3 (fun W => W.cell? ⟨P, 0, none⟩ = some (.slice (some ⟨g, 0, none⟩) 8 cH)) (first | exact Q5d.sh.p.cell 0 | exact (Q5.alloc _).drew.sh.p.cell 0 | exact Q7.sh.p.cell 0 | exact (Q7.sh.p.other _ _ (by simp; omega)).cell 0)
        (first
          | (go_at_call 64
             have Q6 := (Q5.alloc (.cells (([-1, 4294967296, 0] : List Int).map (Value.int .i64)).toArray 3)).drew
             have hcell := cells_arr w5 [-1, 4294967296, 0] 3
             refine (curPick p a n c xs w5.heap.size 3 [-1, 4294967296, 0] _ Q6.cur Q6.cod rfl (by omega) (by omega) (by omega) (fun j hj => hcell j hj)).mono ?_
             rintro e w7 ⟨x, rfl, hx, c7, g7⟩
             have Q7 := Q6.draw c7 g7
             have hxi : -9223372036854775808 ≤ x ∧ x ≤ 9223372036854775807 := by
               simp only [List.mem_cons, List.not_mem_nil, or_false] at hx
               omega
             have hc7 : w7.cell? ⟨g, 0, none⟩ = some (.int .i64 (hs.getD 0 0)) := by
               rcases (own_shapeI Q7.sh.oh).2 with ⟨h1, _⟩ | ⟨g', cap', h1, _, _, _, _, h4, _⟩
               · cases h1
               · cases h1; exact h4 0 (by omega)
             have hf7 : ∀ j, w7.frozen? ⟨g, j, none⟩ = false := by
               rcases (own_shapeI Q7.sh.oh).2 with ⟨h1, _⟩ | ⟨g', cap', h1, _, _, _, _, _, h5⟩
               · cases h1
               · cases h1; exact h5
             clear hcell Q6 c7 g7 hx))
      have E7 : Be w (w7.setCell ⟨g, 0, none⟩ (.int .i64 x)) p P a n c (some ⟨g, 0, none⟩) 8 cH N aT nT cT (hs.set 0 x) := by
        have b := Q7.be HAI.out
        have gs := cur_grown2 w7 g (.int .i64 x) 0
        exact ⟨grown_into b.gr gs (fun k hk => by have := Option.some.inj hk; omega), cur_keep b.cur gs (fun e => by have := Option.some.inj e; omega), b.p2.other _ _ (by simp; omega), b.p3.other _ _ (by simp; omega), b.ih.set0 (by omega) x hxi, b.o1, b.o2, b.le⟩
      clear d3
      have d3 := arr3 E7.p3
      have fp := E7.p3.frozen
      have f2 := arr3 E7.p2
      have ff := E7.p2.frozen
      have HL : Hid _ := E7.last hp0
      have HR : Hid _ := E7.row
      have hne : ¬ P = w.heap.size := by omega
      have hne' : ¬ w.heap.size = P := by omega
      clear Q7 E7 Q5 Q5d hc7 hf7 hgc hgf
      go_wp2
      exact bodyPost_ret (results_cell_row rfl _ _ w.heap.size 27 _ (0, 0) _ rfl HR.out Tryd.underlying27 rfl HSZ) rfl ⟨_, rfl, HL.out⟩
    have t0 : (k == 0) = false := by simp [e0]
    by_cases e1 : k = 1
    · subst e1
      have d3 := arr3 Q5.sh.p
      have hr : IntKind.i64.wrap (N + 64) = N + 64 := by rw [IntKind.wrap_i64]; omega
      go_wp2_with fail
      have Q6 := Q5.alloc (.cells (([-1, 20000, 20001, N + 64] : List Int).map (Value.int .i64)).toArray 3)
      have hcell := cells_arr w5 [-1, 20000, 20001, N + 64] 3
      have hsw := Q5.sh.p.lt
      refine (curPick p a n c xs w5.heap.size 4 [-1, 20000, 20001, N + 64] _ Q6.cur Q6.cod rfl (by omega) (by omega) (by omega) (fun j hj => hcell j hj)).mono ?_
      rintro e w7 ⟨x, rfl, hx, c7, g7⟩
      have Q7 := Q6.draw c7 g7
      clear Q5 Q6 hcell g7 c7 d3 hgc hgf
      have E7 : Be w (w7.setCell ⟨P, 1, none⟩ (.int .i64 x)) p P a n c (some ⟨g, 0, none⟩) 8 cH x aT nT cT hs := by
        have b := Q7.be HAI.out
        have gs := cur_grown2 w7 P (.int .i64 x) 1
        exact ⟨grown_into b.gr gs (fun k hk => by have := Option.some.inj hk; omega), cur_keep b.cur gs (fun e => by have := Option.some.inj e; omega), b.p2.other _ _ (by simp; omega), b.p3.set 1 _, b.ih.far gs (fun b o s he hb => by cases he; omega), b.o1, b.o2, b.le⟩
      have d3 := arr3 Q7.sh.p
      have fp := Q7.sh.p.frozen
      have f2 := arr3 Q7.p2
      have ff := Q7.p2.frozen
      have HL : Hid _ := E7.last hp0
      have HR : Hid _ := E7.row
      have hne : ¬ P = w.heap.size := by omega
      have hne' : ¬ w.heap.size = P := by omega
      clear Q7 E7 hx
      go_wp2
      exact bodyPost_ret (results_cell_row rfl _ _ w.heap.size 27 _ (0, 0) _ rfl HR.out Tryd.underlying27 rfl HSZ) rfl ⟨_, rfl, HL.out⟩
    have t1 : (k == 1) = false := by simp [e1]
    by_cases e2 : k = 2
    · subst e2
      have d3 := arr3 Q5.sh.p
      have hsw := Q5.sh.p.lt
      go_wp2_with (at_builtin; refine wpl_append_bs rfl _ _ rfl lo _ nT ts rfl (some ⟨w5.heap.size, 0, none⟩) 1 1 [1] rfl (Q5.sh.ot.alloc _) (Bs.one _ _ (by omega) (by omega)) ?_ ?_ ?_)
      · omega
      · first | omega | (simp; omega)
      intro v7 w7 o7 g7 _
      have hb7 : ∀ x ∈ ts ++ [1], 0 ≤ x ∧ x < 256 := fun x hx => by
        rcases List.mem_append.1 hx with h | h
        · exact HTB.out x h
        · simp at h; omega
      have o7' : w7.ownsRow lo 5 1 v7 (nT + 1) (U8 (ts ++ [1])) := by simpa using o7
      obtain ⟨a7, c7, rfl, _, _⟩ := Bs.own o7' hb7
      have Q6 := Q5.alloc (.cells #[.int .u8 1] 5)
      have it := Q5.sh.it
      have q2 := grown_arr g7 Q6.p2 it (by omega)
      have q3 := grown_arr g7 Q6.sh.p it (by omega)
      have E7 : Be w (w7.setCell ⟨P, 2, none⟩ (.slice a7 (nT + 1) c7)) p P a n c (some ⟨g, 0, none⟩) 8 cH N a7 (nT + 1) c7 hs := by
        have gs := cur_grown2 w7 P (.slice a7 (nT + 1) c7) 2
        have gr := grown_into Q6.gr g7 (fun k hk => by have := (it k hk).1; omega)
        have cu := cur_keep Q6.cur g7 (fun e => by have := (it _ e).1; have := Q5.hp; omega)
        have ih := is_of_own (own_kept Q6.sh.oh g7 Q5.sh.ap.symm) HAI.out
        exact ⟨grown_into gr gs (fun k hk => by have := Option.some.inj hk; omega), cur_keep cu gs (fun e => by have := Option.some.inj e; omega), q2.other _ _ (by simp; omega), q3.set 2 _, ih.far gs (fun b o s he hb => by cases he; omega), Q5.off (by omega), Q5.off (by omega), Nat.le_refl _⟩
      clear d3 Q5 Q6 it o7 o7' g7 hb7 hgc hgf
      have d3 := arr3 q3
      have fp := q3.frozen
      have f2 := arr3 q2
      have ff := q2.frozen
      have HL : Hid _ := E7.last hp0
      have HR : Hid _ := E7.row
      have hne : ¬ P = w.heap.size := by omega
      have hne' : ¬ w.heap.size = P := by omega
      clear E7 q2 q3
      go_wp2
      exact bodyPost_ret (results_cell_row rfl _ _ w.heap.size 27 _ (0, 0) _ rfl HR.out Tryd.underlying27 rfl HSZ) rfl ⟨_, rfl, HL.out⟩
    have t2 : (k == 2) = false := by simp [e2]
    have d3 := arr3 Q5.sh.p
    have E7 : Be w (w5.setCell ⟨P, 0, none⟩ (.slice (some ⟨g, 1, none⟩) 7 (cH - 1))) p P a n c (some ⟨g, 1, none⟩) 7 (cH - 1) N aT nT cT (hs.drop 1) := by
      have b := Q5.be HAI.out
      have gs := cur_grown2 w5 P (.slice (some ⟨g, 1, none⟩) 7 (cH - 1)) 0
      have ih := b.ih.drop (m := 1) (by omega)
      exact ⟨grown_into b.gr gs (fun k hk => by have := Option.some.inj hk; omega), cur_keep b.cur gs (fun e => by have := Option.some.inj e; omega), b.p2.other _ _ (by simp; omega), b.p3.set 0 _, ih.far gs (fun b o s he hb => by cases he; omega), (fun b o s he hb => by cases he; omega), (fun b o s he hb => by cases he; omega), by omega⟩
    have hc1 : ¬ cH = 1 := by omega
    have hc2 : (1 : Int) ≤ (cH : Int) := by omega
    have hc8 : (8 : Int) ≤ (cH : Int) := by omega
    have hc3 : ((cH : Int) - 1).toNat = cH - 1 := by omega
    have fp := Q5.sh.p.frozen
    have f2 := arr3 Q5.p2
    have ff := Q5.p2.frozen
    have HL : Hid _ := E7.last hp0
    have HR : Hid _ := E7.row
    have hne : ¬ P = w.heap.size := by omega
    have hne' : ¬ w.heap.size = P := by omega
    clear E7 Q5 e0 e1 e2 hgc hgf
    go_wp2
    exact bodyPost_ret (results_cell_row rfl _ _ w.heap.size 27 _ (0, 0) _ rfl HR.out Tryd.underlying27 rfl HSZ) rfl ⟨_, rfl, HL.out⟩
end Go.Proofs.YtgapfkiceolceaaDoor

/-
  What is proved here: contracts of the specification's DrawFeInv, DrawFeBytes and DrawFeAdd; the contract of the specification's DrawFeRoot; the contract of the specification's DrawFeRead.
-/
import Derived.Test.YtpchdfdeomhakaaDoorZQ
import Derived.Test.YtpchdfdeomhakaaDoorZK
namespace Go.Proofs.YtpchdfdeomhakaaDoor
open Go.RowKit
set_option maxRecDepth 100000

set_option maxHeartbeats 2000000 in
theorem drawFeInv (a : Option Addr) (n c : Nat) (xs : List Int) (w : World) (h : Bs w a n c xs) (hm : n ≤ 9223372036854775807) :
    Calls Tryd.prog 23 #[.slice a n c] w fun e w' => ∃ v l, e = .returned v ∧ FeV w w' v l ∧ Below w.heap.size w w' := by
  obtain ⟨W, hW⟩ : ∃ W, W = w.alloc (.cells #[.slice none 0 0] 25) := ⟨_, rfl⟩
  have z0 : Arr W w.heap.size 25 [.slice none 0 0] := by rw [hW]; exact Arr.new _ _ _
  have gB : Below w.heap.size w W := by rw [hW]; exact (Below.refl _ _).alloc (Nat.le_refl _) _
  go_enter Tryd.func23, Tryd.ntmps23
  go_wp2_with fail
  rw [← hW]
  clear hW
  refine (curNew a n c xs _ (h.below gB) hm).mono ?_
  rintro e w1 ⟨rfl, c1, d1, hs1, hb1⟩
  have z1 := z0.kept hb1
  have l0 := z0.lt
  have gB1 := gB.trans (hb1.mono gB.size)
  go_wp2_with fail
  refine (curBent4 W.heap.size a n c xs _ c1 d1).mono ?_
  rintro e w2 ⟨v, l, rfl, ⟨a', n', c', rfl, his, hoff, hn⟩, c2, g2⟩
  have z2 := arr_cur z1 g2 (by omega)
  have gB2 : Below w.heap.size w w2 := gB1.grown g2 (by omega) (fun k hk => by have := Option.some.inj hk; omega)
  have hs := gB1.size
  have hc0 : w2.cell? ⟨w.heap.size, 0, none⟩ = some (.slice none 0 0) := z2.cell 0
  have hf0 := z2.frozen 0
  have HA : Hid _ := z2.set 0 (.slice a' n' c')
  have HB : Hid _ := gB2.setCell (p := ⟨w.heap.size, 0, none⟩) (Nat.le_refl _) (.slice a' n' c')
  have HI : Hid (FeV w (w2.setCell ⟨w.heap.size, 0, none⟩ (.slice a' n' c')) (.agg #[.slice a' n' c']) l) :=
    ⟨a', n', c', rfl, is_far his w.heap.size 0 _ (fun b o s e => by have := hoff b o s e; omega), fun b o s e => by have := hoff b o s e; omega, hn⟩
  clear z0 z1 z2 gB gB1 gB2 c1 d1 c2 g2 his hoff hb1 h
  go_wp2
  exact bodyPost_ret (results_cell_row rfl _ _ w.heap.size 25 #[.slice a' n' c'] (0, 0) _ rfl HA.out Tryd.underlying25 rfl infoFe) rfl ⟨_, l, rfl, HI.out, HB.out⟩

set_option maxHeartbeats 2000000 in
theorem drawFeBytes (a : Option Addr) (n c : Nat) (xs : List Int) (w : World) (h : Bs w a n c xs) (hm : n ≤ 9223372036854775807) :
    Calls Tryd.prog 28 #[.slice a n c] w fun e w' => ∃ v l, e = .returned v ∧ FeV w w' v l ∧ Below w.heap.size w w' := by
  obtain ⟨W, hW⟩ : ∃ W, W = w.alloc (.cells #[.slice none 0 0] 25) := ⟨_, rfl⟩
  have z0 : Arr W w.heap.size 25 [.slice none 0 0] := by rw [hW]; exact Arr.new _ _ _
  have gB : Below w.heap.size w W := by rw [hW]; exact (Below.refl _ _).alloc (Nat.le_refl _) _
  go_enter Tryd.func28, Tryd.ntmps28
  go_wp2_with fail
  rw [← hW]
  clear hW
  refine (curNew a n c xs _ (h.below gB) hm).mono ?_
  rintro e w1 ⟨rfl, c1, d1, hs1, hb1⟩
  have z1 := z0.kept hb1
  have l0 := z0.lt
  have gB1 := gB.trans (hb1.mono gB.size)
  go_wp2_with fail
  refine (curBent4 W.heap.size a n c xs _ c1 d1).mono ?_
  rintro e w2 ⟨v, l, rfl, ⟨a', n', c', rfl, his, hoff, hn⟩, c2, g2⟩
  have z2 := arr_cur z1 g2 (by omega)
  have gB2 : Below w.heap.size w w2 := gB1.grown g2 (by omega) (fun k hk => by have := Option.some.inj hk; omega)
  have hs := gB1.size
  have hc0 : w2.cell? ⟨w.heap.size, 0, none⟩ = some (.slice none 0 0) := z2.cell 0
  have hf0 := z2.frozen 0
  have HA : Hid _ := z2.set 0 (.slice a' n' c')
  have HB : Hid _ := gB2.setCell (p := ⟨w.heap.size, 0, none⟩) (Nat.le_refl _) (.slice a' n' c')
  have HI : Hid (FeV w (w2.setCell ⟨w.heap.size, 0, none⟩ (.slice a' n' c')) (.agg #[.slice a' n' c']) l) :=
    ⟨a', n', c', rfl, is_far his w.heap.size 0 _ (fun b o s e => by have := hoff b o s e; omega), fun b o s e => by have := hoff b o s e; omega, hn⟩
  clear z0 z1 z2 gB gB1 gB2 c1 d1 c2 g2 his hoff hb1 h
  go_wp2
  exact bodyPost_ret (results_cell_row rfl _ _ w.heap.size 25 #[.slice a' n' c'] (0, 0) _ rfl HA.out Tryd.underlying25 rfl infoFe) rfl ⟨_, l, rfl, HI.out, HB.out⟩

theorem is_cur {X Y : World} {a : Option Addr} {n c : Nat} {l : List Int} {p lo : Nat} (h : Is X a n c l) (hg : X.grownBy Y (some p)) (hoff : ∀ b o s, a = some ⟨b, o, s⟩ → lo < b) (hp : p ≤ lo) : Is Y a n c l := by
  obtain ⟨h0, h1, h2, h3, h4⟩ := h
  refine ⟨h0, h1, h2, h3, ?_⟩
  rcases h4 with h4 | ⟨b, o, ha, hlt, hc⟩
  · exact .inl h4
  · have hbp := hoff b o none ha
    exact .inr ⟨b, o, ha, Nat.lt_of_lt_of_le hlt hg.size, fun i hi => by rw [World.cell?_of_block (a := ⟨b, o + i, none⟩) (hg.block b hlt (fun e => by have := Option.some.inj e; omega))]; exact hc i hi⟩

theorem results_two {P : Program} {fn : Func} {p q : Tmp} {ty : TypeId} {w : World} {g k : Nat} {t s : TypeId} {cs ds : List Value} {d : TypeDesc} {tmps : Array Value} (h : fn.results = #[.cell p ty, .cell q ty])
    (hp : tmps.getD p undef = .pointer (some ⟨g, 0, none⟩)) (hq : tmps.getD q undef = .pointer (some ⟨k, 0, none⟩)) (hg : Arr w g t cs) (hk : Arr w k s ds) (hu : P.underlying ty = some d) (hd : (match d with | .struct _ | .array _ _ => true | _ => false) = true) (hi : (P.info? ty).map (·.size) = some cs.length) (hj : (P.info? ty).map (·.size) = some ds.length) :
    (results fn tmps).run P w = .ok (.tuple #[.agg cs.toArray, .agg ds.toArray]) w := by
  have hl := run_loadVar_row (P := P) w g t ty cs.toArray (0, 0) d hg hu hd (by simpa using hi)
  have hm := run_loadVar_row (P := P) w k s ty ds.toArray (0, 0) d hk hu hd (by simpa using hj)
  have hp' : tmps[p]?.getD undef = .pointer (some ⟨g, 0, none⟩) := by simpa using hp
  have hq' : tmps[q]?.getD undef = .pointer (some ⟨k, 0, none⟩) := by simpa using hq
  simp only [results, h]
  simp [Sem.run_bind, hp', hq', asAddr, Result.andThen, hl, hm]

set_option maxHeartbeats 2000000 in
theorem drawFeAdd (a : Option Addr) (n c : Nat) (xs : List Int) (w : World) (h : Bs w a n c xs) (hm : n ≤ 9223372036854775807) :
    Calls Tryd.prog 14 #[.slice a n c] w fun e w' => ∃ v l u m, e = .returned (.tuple #[v, u]) ∧ FeV w w' v l ∧ FeV w w' u m ∧ Below w.heap.size w w' := by
  obtain ⟨W, hW⟩ : ∃ W, W = (w.alloc (.cells #[.slice none 0 0] 25)).alloc (.cells #[.slice none 0 0] 25) := ⟨_, rfl⟩
  have z0 : Arr W w.heap.size 25 [.slice none 0 0] := by rw [hW]; exact (Arr.new w [.slice none 0 0] _).alloc _
  have y0 : Arr W (w.heap.size + 1) 25 [.slice none 0 0] := by
    rw [hW]
    have := Arr.new (w.alloc (.cells #[.slice none 0 0] 25)) [.slice none 0 0] 25
    rw [World.size_alloc] at this
    exact this
  have gB : Below w.heap.size w W := by rw [hW]; exact ((Below.refl _ _).alloc (Nat.le_refl _) _).alloc (by simp) _
  go_enter Tryd.func14, Tryd.ntmps14
  go_wp2_with fail
  rw [← hW]
  clear hW
  refine (curNew a n c xs _ (h.below gB) hm).mono ?_
  rintro e w1 ⟨rfl, c1, d1, hs1, hb1⟩
  have l0 := y0.lt
  have z1 := z0.kept hb1
  have y1 := y0.kept hb1
  have gB1 := gB.trans (hb1.mono gB.size)
  clear z0 y0
  go_wp2_with fail
  refine (curBent4 W.heap.size a n c xs _ c1 d1).mono ?_
  rintro e w2 ⟨v, l, rfl, ⟨a', n', c', rfl, his, hoff, hn⟩, c2, g2⟩
  have d2 := d1.grown g2
  have z2 := arr_cur z1 g2 (by omega)
  have y2 := arr_cur y1 g2 (by omega)
  have gB2 : Below w.heap.size w w2 := gB1.grown g2 (by omega) (fun k hk => by have := Option.some.inj hk; omega)
  go_wp2_with fail
  refine (curBent4 W.heap.size a n c xs _ c2 d2).mono ?_
  rintro e w3 ⟨u, m, rfl, ⟨a2, n2, e2, rfl, jis, joff, jn⟩, c3, g3⟩
  have z3 := arr_cur z2 g3 (by omega)
  have y3 := arr_cur y2 g3 (by omega)
  have gB3 : Below w.heap.size w w3 := gB2.grown g3 gB2.size (fun k hk => by have := Option.some.inj hk; omega)
  replace his := is_cur his g3 hoff (by omega)
  have hz := g2.size
  have hc0 : w3.cell? ⟨w.heap.size, 0, none⟩ = some (.slice none 0 0) := z3.cell 0
  have hf0 := z3.frozen 0
  have hc1 : w3.cell? ⟨w.heap.size + 1, 0, none⟩ = some (.slice none 0 0) := y3.cell 0
  have hf1 := y3.frozen 0
  have Z4 := (z3.set 0 (.slice a' n' c')).other ⟨w.heap.size + 1, 0, none⟩ (.slice a2 n2 e2) (by show w.heap.size ≠ w.heap.size + 1; omega)
  have Y4 := (y3.other ⟨w.heap.size, 0, none⟩ (.slice a' n' c') (by show w.heap.size + 1 ≠ w.heap.size; omega)).set 0 (.slice a2 n2 e2)
  have B4 := (gB3.setCell (p := ⟨w.heap.size, 0, none⟩) (Nat.le_refl _) (.slice a' n' c')).setCell (p := ⟨w.heap.size + 1, 0, none⟩) (by show w.heap.size ≤ w.heap.size + 1; omega) (.slice a2 n2 e2)
  have I4 := is_far (is_far his w.heap.size 0 (.slice a' n' c') (fun b o s e => by have := hoff b o s e; omega)) (w.heap.size + 1) 0 (.slice a2 n2 e2) (fun b o s e => by have := hoff b o s e; omega)
  have J4 := is_far (is_far jis w.heap.size 0 (.slice a' n' c') (fun b o s e => by have := joff b o s e; omega)) (w.heap.size + 1) 0 (.slice a2 n2 e2) (fun b o s e => by have := joff b o s e; omega)
  have HZ : Hid _ := Z4
  have HY : Hid _ := Y4
  have HB : Hid _ := B4
  have HI : Hid (FeV w ((w3.setCell ⟨w.heap.size, 0, none⟩ (.slice a' n' c')).setCell ⟨w.heap.size + 1, 0, none⟩ (.slice a2 n2 e2)) (.agg #[.slice a' n' c']) l) := ⟨a', n', c', rfl, I4, fun b o s e => by have := hoff b o s e; omega, hn⟩
  have HJ : Hid (FeV w ((w3.setCell ⟨w.heap.size, 0, none⟩ (.slice a' n' c')).setCell ⟨w.heap.size + 1, 0, none⟩ (.slice a2 n2 e2)) (.agg #[.slice a2 n2 e2]) m) := ⟨a2, n2, e2, rfl, J4, fun b o s e => by have := joff b o s e; omega, jn⟩
  clear z1 z2 z3 y1 y2 y3 gB gB1 gB2 gB3 c1 d1 c2 d2 g2 c3 g3 his hoff jis joff hb1 h Z4 Y4 B4 I4 J4
  go_wp2
  exact bodyPost_ret (results_two (cs := [.slice a' n' c']) (ds := [.slice a2 n2 e2]) rfl rfl rfl HZ.out HY.out Tryd.underlying25 rfl infoFe infoFe) rfl ⟨_, l, _, m, rfl, HI.out, HJ.out, HB.out⟩
end Go.Proofs.YtpchdfdeomhakaaDoor
namespace Go.Proofs.YtpchdfdeomhakaaDoor
open Go.RowKit
set_option maxRecDepth 100000

/-- The result's cell and the drawn number's. -/
structure Rz (w X : World) (P : Nat) (a : Option Addr) (n c : Nat) (l : List Int) : Prop where
  fr : Below w.heap.size w X
  z : Arr X w.heap.size 25 [.slice none 0 0]
  q : Arr X P 25 [.slice a n c]
  is : Is X a n c l
  lt : w.heap.size < P
  off : ∀ b o s, a = some ⟨b, o, s⟩ → w.heap.size < b
theorem Rz.go {w X Y : World} {P : Nat} {a : Option Addr} {n c : Nat} {l : List Int} (h : Rz w X P a n c l) (hb : Below X.heap.size X Y) : Rz w Y P a n c l :=
  ⟨h.fr.trans (hb.mono h.fr.size), h.z.kept hb, h.q.kept hb, h.is.below hb, h.lt, h.off⟩
/-- The number itself is answered. -/
theorem Rz.fin {w X : World} {P : Nat} {a : Option Addr} {n c : Nat} {l : List Int} (h : Rz w X P a n c l) (hn : n ≤ 16) :
    (FeV w (X.setCell ⟨w.heap.size, 0, none⟩ (.slice a n c)) (.agg #[.slice a n c]) l ∧ Below w.heap.size w (X.setCell ⟨w.heap.size, 0, none⟩ (.slice a n c))) ∧ Arr (X.setCell ⟨w.heap.size, 0, none⟩ (.slice a n c)) w.heap.size 25 [.slice a n c] :=
  ⟨⟨⟨a, n, c, rfl, is_far h.is w.heap.size 0 _ (fun b o s e => by have := h.off b o s e; omega), h.off, hn⟩, h.fr.setCell (p := ⟨w.heap.size, 0, none⟩) (Nat.le_refl _) _⟩, h.z.set 0 _⟩

set_option maxHeartbeats 2000000 in
theorem drawFeRoot (a : Option Addr) (n c : Nat) (xs : List Int) (w : World) (h : Bs w a n c xs) (hm : n ≤ 9223372036854775807) :
    Calls Tryd.prog 26 #[.slice a n c] w fun e w' => ∃ v l, e = .returned v ∧ FeV w w' v l ∧ Below w.heap.size w w' := by
  obtain ⟨W, hW⟩ : ∃ W, W = w.alloc (.cells #[.slice none 0 0] 25) := ⟨_, rfl⟩
  have z0 : Arr W w.heap.size 25 [.slice none 0 0] := by rw [hW]; exact Arr.new _ _ _
  have gB : Below w.heap.size w W := by rw [hW]; exact (Below.refl _ _).alloc (Nat.le_refl _) _
  go_enter Tryd.func26, Tryd.ntmps26
  go_wp2_with fail
  rw [← hW]
  clear hW
  refine (curNew a n c xs _ (h.below gB) hm).mono ?_
  rintro e w1 ⟨rfl, c1, d1, hs1, hb1⟩
  have z1 := z0.kept hb1
  have l0 := z0.lt
  have gB1 := gB.trans (hb1.mono gB.size)
  go_wp2_with fail
  refine (curBent4 W.heap.size a n c xs _ c1 d1).mono ?_
  rintro e w2 ⟨v, l, rfl, ⟨a', n', c', rfl, his, hoff, hn⟩, c2, g2⟩
  have d2 := d1.grown g2
  have z2 := arr_cur z1 g2 (by omega)
  have gB2 : Below w.heap.size w w2 := gB1.grown g2 gB1.size (fun k hk => by have := Option.some.inj hk; omega)
  have RZ : Rz w (w2.alloc (.cells #[.slice a' n' c'] 25)) w2.heap.size a' n' c' l :=
    ⟨gB2.alloc gB2.size _, z2.alloc _, Arr.new _ _ _, his.below ((Below.refl _ _).alloc (Nat.le_refl _) _), z2.lt, fun b o s e => by have := hoff b o s e; omega⟩
  have c3 := cur_keep c2 (grown_alloc w2 (.cells #[.slice a' n' c'] 25) none) (by simp)
  have d3 := d2.grown (grown_alloc w2 (.cells #[.slice a' n' c'] 25) _)
  have hPp : W.heap.size < w2.heap.size := Nat.lt_of_lt_of_le (by omega) g2.size
  obtain ⟨X, hX⟩ : ∃ X, X = w2.alloc (.cells #[.slice a' n' c'] 25) := ⟨_, rfl⟩
  obtain ⟨P, hP⟩ : ∃ P, P = w2.heap.size := ⟨_, rfl⟩
  rw [← hX] at RZ c3 d3
  rw [← hP] at RZ hPp
  have hoffp : ∀ b o s, a' = some ⟨b, o, s⟩ → W.heap.size < b := fun b o s e => by have := hoff b o s e; omega
  clear z0 z1 z2 gB gB1 gB2 c1 d1 c2 d2 g2 his hoff hb1 h
  go_wp2_with fail
  rw [← hX, ← hP]
  clear hX hP
  refine (curOnce W.heap.size a n c xs 2 _ c3 d3 (by omega)).mono ?_
  rintro e w4 ⟨x4, rfl, c4, g4⟩
  replace RZ : Rz w w4 P a' n' c' l := ⟨RZ.fr.grown g4 RZ.fr.size (fun k hk => by have := Option.some.inj hk; omega), arr_cur RZ.z g4 (by omega), arr_cur RZ.q g4 (by omega), is_cur RZ.is g4 hoffp (Nat.le_refl _), RZ.lt, RZ.off⟩
  clear c3 d3 c4 g4
  have hlt := RZ.lt
  have hneP : ¬ P = w.heap.size := by omega
  have hcP : w4.cell? ⟨P, 0, none⟩ = some (.slice a' n' c') := RZ.q.cell 0
  cases x4 with
  | false =>
    have hc0 : w4.cell? ⟨w.heap.size, 0, none⟩ = some (.slice none 0 0) := RZ.z.cell 0
    have hf0 := RZ.z.frozen 0
    have HF : Hid _ := RZ.fin hn
    clear RZ
    go_wp2
    exact bodyPost_ret (results_cell_row rfl _ _ w.heap.size 25 #[.slice a' n' c'] (0, 0) _ rfl HF.out.2 Tryd.underlying25 rfl infoFe) rfl ⟨_, l, rfl, HF.out.1⟩
  | true =>
    go_wp2_with fail
    refine (specFeOk a' n' c' l _ RZ.is).mono ?_
    rintro e w5 ⟨rfl, hb5⟩
    replace RZ := RZ.go hb5
    clear hb5 hcP
    have hcP : w5.cell? ⟨P, 0, none⟩ = some (.slice a' n' c') := RZ.q.cell 0
    cases hok : feOk l with
    | false =>
      have hc0 : w5.cell? ⟨w.heap.size, 0, none⟩ = some (.slice none 0 0) := RZ.z.cell 0
      have hf0 := RZ.z.frozen 0
      have HF : Hid _ := RZ.fin hn
      clear RZ
      go_wp2
      exact bodyPost_ret (results_cell_row rfl _ _ w.heap.size 25 #[.slice a' n' c'] (0, 0) _ rfl HF.out.2 Tryd.underlying25 rfl infoFe) rfl ⟨_, l, rfl, HF.out.1⟩
    | true =>
      obtain ⟨xl, xm, xv⟩ := (feOk_iff l).1 hok
      obtain rfl : n' = 16 := by have := RZ.is.2.1; omega
      obtain ⟨L, hL⟩ : ∃ L, L = red (val l * val l) := ⟨_, rfl⟩
      have hLl : L.length = 16 := by rw [hL]; exact red_len _
      have hLm : Lm L := by rw [hL]; exact red_lm _
      have HML : Hid (∀ Z, Calls Tryd.prog 62 #[.agg (I64 l).toArray, .agg (I64 l).toArray] Z fun e w' => e = .returned (.agg (I64 L).toArray) ∧ Below Z.heap.size Z w') := by
        unfold Hid; intro Z; rw [hL]; exact specMul16 l l Z xl xl xm xm
      clear hL xl xm xv hok
      replace RZ : Rz w w5.drew P a' 16 c' l := RZ.go (Below.refl _ _).drew
      go_wp2
      go_region_held3 (fun W => W.cell? ⟨P, 0, none⟩ = some (.slice a' 16 c'))
        (first
          | exact RZ.q.cell 0
          | exact hS5)
        ((first
          | (go_at_call 63; refine (specIn a' c' l _ RZ.is).mono ?_; rintro e w6 ⟨rfl, hb6⟩; replace RZ := RZ.go hb6; clear hb6)
          | (go_at_call 62; refine (HML.out _).mono ?_; rintro e w7 ⟨rfl, hb7⟩; replace RZ := RZ.go hb7; clear hb7)
          | (go_at_call 61; refine (specOut L _ hLl hLm).mono ?_; rintro e w8 ⟨a2, c2, rfl, ho, hb8⟩; have hz := RZ.z.lt; replace RZ := RZ.go hb8; have hS5 : (w8.setCell ⟨w.heap.size, 0, none⟩ (.slice a2 16 c2)).cell? ⟨P, 0, none⟩ = some (.slice a' 16 c') := (RZ.q.other ⟨w.heap.size, 0, none⟩ (.slice a2 16 c2) (by show P ≠ w.heap.size; omega)).cell 0; have hc0 : w8.cell? ⟨w.heap.size, 0, none⟩ = some (.slice none 0 0) := RZ.z.cell 0; have hf0 := RZ.z.frozen 0)))
      all_goals
        obtain ⟨g, C, hv, hgB, hrow⟩ := own_row ho hLm
        injection hv with f1 _ f2
        subst f1 f2
        have HI : Hid (FeV w (w8.setCell ⟨w.heap.size, 0, none⟩ (.slice (some ⟨g, 0, none⟩) 16 c2)) (.agg #[.slice (some ⟨g, 0, none⟩) 16 c2]) L) := ⟨_, _, _, rfl, is_far hrow.is w.heap.size 0 _ (fun b o s e => by cases e; omega), fun b o s e => by cases e; omega, Nat.le_refl _⟩
        have HB : Hid _ := RZ.fr.setCell (p := ⟨w.heap.size, 0, none⟩) (Nat.le_refl _) (.slice (some ⟨g, 0, none⟩) 16 c2)
        have HA : Hid _ := RZ.z.set 0 (.slice (some ⟨g, 0, none⟩) 16 c2)
        clear RZ ho hb8 hrow
        go_wp2
        exact bodyPost_ret (results_cell_row rfl _ _ w.heap.size 25 #[.slice (some ⟨g, 0, none⟩) 16 c2] (0, 0) _ rfl HA.out Tryd.underlying25 rfl infoFe) rfl ⟨_, rfl, ⟨L, HI.out⟩, HB.out⟩
end Go.Proofs.YtpchdfdeomhakaaDoor
namespace Go.Proofs.YtpchdfdeomhakaaDoor
open Go.RowKit
set_option maxRecDepth 100000

/-- A row of 32 bytes that is not frozen, beside a cursor. -/
structure By (w X : World) (p g C : Nat) (a : Option Addr) (n c : Nat) (xs bs : List Int) : Prop where
  fr : Below w.heap.size w X
  cur : Cur X p a n c
  cod : Coded X p a n c xs
  is : Bs X (some ⟨g, 0, none⟩) 32 C bs
  fz : ∀ j, X.frozen? ⟨g, j, none⟩ = false
  hg : w.heap.size ≤ g
  hp : w.heap.size ≤ p
  ne : g ≠ p
  lt : g < X.heap.size
theorem bs_block {X Y : World} {g C m : Nat} {bs : List Int} (h : Bs X (some ⟨g, 0, none⟩) m C bs) (hb : Y.heap[g]? = X.heap[g]?) (hs : X.heap.size ≤ Y.heap.size) : Bs Y (some ⟨g, 0, none⟩) m C bs := by
  obtain ⟨h0, h1, h2, h3, h4⟩ := h
  refine ⟨h0, h1, h2, h3, ?_⟩
  rcases h4 with h4 | ⟨b, o, ha, hlt, hc⟩
  · exact .inl h4
  · cases ha
    exact .inr ⟨g, 0, rfl, by omega, fun j hj => by rw [World.cell?_of_block (a := ⟨g, 0 + j, none⟩) hb]; exact hc j hj⟩
section
variable {w X Y : World} {p g C : Nat} {a : Option Addr} {n c : Nat} {xs bs : List Int}
theorem By.draw (h : By w X p g C a n c xs bs) (hc : Cur Y p a n c) (hg : X.grownBy Y (some p)) : By w Y p g C a n c xs bs :=
  have hb := hg.block g h.lt (fun e => h.ne (Option.some.inj e))
  ⟨h.fr.grown hg h.fr.size (fun k hk => by have := Option.some.inj hk; have := h.hp; omega), hc, h.cod.grown hg, bs_block h.is hb hg.size, fun j => by rw [World.frozen?_of_block (a := ⟨g, j, none⟩) hb]; exact h.fz j, h.hg, h.hp, h.ne, Nat.lt_of_lt_of_le h.lt hg.size⟩
theorem By.calm (h : By w X p g C a n c xs bs) (hb : Below X.heap.size X Y) : By w Y p g C a n c xs bs :=
  have hg := hb.block g h.lt
  ⟨h.fr.trans (hb.mono h.fr.size), cur_keep h.cur (below_grown hb none) (by simp), h.cod.grown (below_grown hb _), bs_block h.is hg hb.size, fun j => by rw [World.frozen?_of_block (a := ⟨g, j, none⟩) hg]; exact h.fz j, h.hg, h.hp, h.ne, Nat.lt_of_lt_of_le h.lt hb.size⟩
theorem By.cell (h : By w X p g C a n c xs bs) (j : Nat) (hj : j < 32) : X.cell? ⟨g, j, none⟩ = some (.int .u8 (bs.getD j 0)) := by
  obtain ⟨h0, h1, h2, h3, h4⟩ := h.is
  rcases h4 with h4 | ⟨b, o, ha, hlt, hc⟩
  · omega
  · cases ha
    have := hc j hj
    rw [Nat.zero_add] at this
    exact this
theorem By.put (h : By w X p g C a n c xs bs) (k : Nat) (hk : k < 32) (x : Int) (hx : 0 ≤ x ∧ x < 256) (hcod : Coded (X.setCell ⟨g, k, none⟩ (.int .u8 x)) p a n c xs) : By w (X.setCell ⟨g, k, none⟩ (.int .u8 x)) p g C a n c xs (bs.set k x) := by
  have hck := h.cell k hk
  have gs := cur_grown2 X g (.int .u8 x) k
  refine ⟨h.fr.setCell (p := ⟨g, k, none⟩) h.hg _, cur_keep h.cur gs (fun e => h.ne (Option.some.inj e)), hcod, ?_, fun j => by rw [World.frozen?_setCell]; exact h.fz j, h.hg, h.hp, h.ne, by have := h.lt; simpa using this⟩
  obtain ⟨h0, h1, h2, h3, h4⟩ := h.is
  refine ⟨h0, by simpa using h1, h2, ?_, ?_⟩
  · intro y hy
    rcases List.mem_or_eq_of_mem_set hy with h | h
    · exact h3 y h
    · rw [h]; exact hx
  · rcases h4 with h4 | ⟨b, o, ha, hlt, hc⟩
    · omega
    · cases ha
      refine .inr ⟨g, 0, rfl, by simpa using hlt, fun j hj => ?_⟩
      by_cases hj0 : j = k
      · subst hj0
        rw [show (⟨g, 0 + j, none⟩ : Addr) = ⟨g, j, none⟩ by rw [Nat.zero_add], World.cell?_setCell_same X ⟨g, j, none⟩ (.int .u8 x) hck]
        simp [List.getD, show j < bs.length by omega]
      · rw [World.cell?_setCell_other X ⟨g, k, none⟩ ⟨g, 0 + j, none⟩ (.int .u8 x) (fun e => hj0 (by simpa using (Addr.mk.inj e).2.1.symm)), hc j hj]
        simp [List.getD, Ne.symm hj0]
theorem By.rest (h : By w X p g C a n c xs bs) : Bs X (some ⟨g, 1, none⟩) 31 (C - 1) (bs.drop 1) := by
  have hlt := h.lt
  obtain ⟨h0, h1, h2, h3, h4⟩ := h.is
  refine ⟨by simp, by simp [h1], by omega, fun x hx => h3 x (List.mem_of_mem_drop hx), .inr ⟨g, 1, rfl, hlt, fun j hj => ?_⟩⟩
  rcases h4 with h4 | ⟨b, o, ha, hlt, hc⟩
  · omega
  · cases ha
    have := hc (1 + j) (by omega)
    rw [Nat.zero_add] at this
    rw [this]
    simp [List.getD, Nat.add_comm 1 j]
end
theorem by_new {w X : World} {p B : Nat} {v : Value} {a : Option Addr} {n c : Nat} {xs l : List Int} (fr : Below w.heap.size w X) (cur : Cur X p a n c) (cod : Coded X p a n c xs) (ho : X.ownsRow B 5 1 v 32 (U8 (btL l))) (hm : Lm l) (hp : w.heap.size ≤ p) (hpB : p < B) :
    ∃ g C, v = .slice (some ⟨g, 0, none⟩) 32 C ∧ By w X p g C a n c xs (btL l) := by
  obtain ⟨a2, c2, e2, _, hi2⟩ := Bs.own ho (btL_byte hm)
  rcases (own_shape ho).2 with ⟨h1, h2⟩ | ⟨g, C, h1, hg, hgs, _, _, _, hf⟩
  · omega
  · subst e2
    cases h1
    exact ⟨g, _, rfl, fr, cur, cod, hi2, hf, by omega, hp, by omega, hgs⟩

set_option maxHeartbeats 4000000 in
theorem drawFeRead (a : Option Addr) (n c : Nat) (xs : List Int) (w : World) (h : Bs w a n c xs) (hm : n ≤ 9223372036854775807) :
    Calls Tryd.prog 31 #[.slice a n c] w fun e w' => ∃ a' n' c' bs, e = .returned (.slice a' n' c') ∧ Bs w' a' n' c' bs ∧ n' ≤ 32 ∧ (∀ b o s, a' = some ⟨b, o, s⟩ → w.heap.size ≤ b) ∧ Below w.heap.size w w' := by
  go_enter Tryd.func31, Tryd.ntmps31
  go_wp2_with fail
  refine (curNew a n c xs _ h hm).mono ?_
  rintro e w1 ⟨rfl, c1, d1, hs1, fr1⟩
  go_wp2_with fail
  refine (curDraw4 w.heap.size a n c xs _ c1 d1).mono ?_
  rintro e w2 ⟨l, rfl, hok, c2, g2⟩
  obtain ⟨hll, hlm, _⟩ := (feOk_iff l).1 hok
  have fr2 : Below w.heap.size w w2 := fr1.grown g2 fr1.size (fun k hk => by have := Option.some.inj hk; omega)
  have hz2 := g2.size
  go_wp2_with fail
  refine (specBytes16 l _ hll hlm).mono ?_
  rintro e w3 ⟨v, rfl, ho, hb3⟩
  have fr3 := fr2.trans (hb3.mono fr2.size)
  obtain ⟨g, C, rfl, BB⟩ := by_new (xs := xs) fr3 (cur_keep c2 (below_grown hb3 none) (by simp)) (coded_of h hm fr3) ho hlm (Nat.le_refl _) (by omega)
  obtain ⟨bs, hbs⟩ : ∃ bs, bs = btL l := ⟨_, rfl⟩
  rw [← hbs] at BB
  have HPB : Hid (∀ Z, Calls Tryd.prog 68 #[.agg (I64 PL).toArray] Z fun e w' => ∃ v, e = .returned v ∧ w'.ownsRow Z.heap.size 5 1 v 32 (U8 (btL PL)) ∧ Below Z.heap.size Z w') := by
    unfold Hid; intro Z; exact specBytes16 PL Z PL_len PL_lm
  clear hbs ho hb3 fr3 fr2 c1 d1 g2 c2 fr1 hz2 hs1 hok
  go_wp2_with fail
  refine (curOnce w.heap.size a n c xs 4 _ BB.cur BB.cod (by omega)).mono ?_
  rintro e w4 ⟨x4, rfl, c4, g4⟩
  replace BB := BB.draw c4 g4
  clear c4 g4
  have hc31 := BB.cell 31 (by omega)
  have hf31 := BB.fz 31
  have B2 := BB.put 31 (by omega) 255 (by omega) (coded_of h hm (BB.fr.setCell (p := ⟨g, 31, none⟩) BB.hg _))
  have hcapC : 32 ≤ C := BB.is.2.2.1
  cases x4
  case' true => replace BB := B2
  case' true => obtain ⟨bs, hbs⟩ : ∃ cs, cs = bs.set 31 255 := ⟨_, rfl⟩
  case' true => rw [← hbs] at BB
  case' true => clear hbs
  all_goals
    clear B2
    go_wp2_with fail
    clear hc31 hf31
    refine (curOnce w.heap.size a n c xs 6 _ BB.cur BB.cod (by omega)).mono ?_
    rintro e w5 ⟨x5, rfl, c5, g5⟩
    replace BB := BB.draw c5 g5
    clear c5 g5
    cases x5
    case' true =>
      go_wp2_with fail
      refine (specPrime _).mono ?_
      rintro e w6 ⟨rfl, hb6⟩
      replace BB := BB.calm hb6
      clear hb6
      go_wp2_with fail
      refine (HPB.out _).mono ?_
      rintro e w7 ⟨v7, rfl, ho7, hb7⟩
      have hp6 := cur_lt BB.cur
      replace BB := BB.calm hb7
      obtain ⟨g', C', rfl, BN⟩ := by_new (xs := xs) BB.fr BB.cur BB.cod ho7 PL_lm (Nat.le_refl _) hp6
      clear BB ho7 hb7 hp6 hcapC
      obtain ⟨bs', hbs'⟩ : ∃ bs, bs = btL PL := ⟨_, rfl⟩
      rw [← hbs'] at BN
      clear hbs'
      have hpw := cur_lt BN.cur
      have BA := BN.calm ((Below.refl _ w7).alloc (Nat.le_refl _) (.cells (([236, 237, 238, 255] : List Int).map (Value.int .i64)).toArray 3))
      have hcell := cells_arr w7 [236, 237, 238, 255] 3
      clear BN
      go_wp2_with fail
      refine (curPick w.heap.size a n c xs w7.heap.size 4 [236, 237, 238, 255] _ BA.cur BA.cod rfl (by omega) (by omega) (by omega) (fun j hj => hcell j hj)).mono ?_
      rintro e w8 ⟨x, rfl, hx, c8, g8⟩
      replace BA := BA.draw c8 g8
      have hxb : 0 ≤ x ∧ x < 256 := by simp only [List.mem_cons, List.not_mem_nil, or_false] at hx; omega
      have hxw : IntKind.u8.wrap x = x := by rw [IntKind.wrap_u8]; omega
      have hc00 := BA.cell 0 (by omega)
      have hf00 := BA.fz 0
      have BB := BA.put 0 (by omega) x hxb (coded_of h hm (BA.fr.setCell (p := ⟨g', 0, none⟩) BA.hg _))
      have hcapC : 32 ≤ C' := BB.is.2.2.1
      clear BA hcell c8 g8 hx hpw
    all_goals
      go_wp2_with fail
      refine (curOnce w.heap.size a n c xs 12 _ BB.cur BB.cod (by omega)).mono ?_
      rintro e w9 ⟨x9, rfl, c9, g9⟩
      replace BB := BB.draw c9 g9
      clear c9 g9
      have HB : Hid _ := BB
      clear BB
      cases x9
      case false =>
        go_wp2
        go_ret
        exact ⟨_, _, _, _, rfl, HB.out.is, by omega, fun b o s e => by cases e; exact HB.out.hg, HB.out.fr⟩
      case true =>
        go_wp2
        go_ret
        exact ⟨_, _, _, _, rfl, HB.out.rest, by omega, fun b o s e => by cases e; exact HB.out.hg, HB.out.fr⟩
end Go.Proofs.YtpchdfdeomhakaaDoor

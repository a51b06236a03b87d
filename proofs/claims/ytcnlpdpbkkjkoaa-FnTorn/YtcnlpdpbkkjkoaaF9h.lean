/-
  What is proved here: flashes that are drawn (the specification's l9draw): memory of the call's own, as long as a flash is, hardly worn; nothing that was there turns but the cursor; for every code.
-/
import Derived.Test.YtcnlpdpbkkjkoaaF9y
import Derived.Test.YtcnlpdpbkkjkoaaVxm
namespace Go.Proofs.Ytcnlpdpbkkjkoaa
set_option maxRecDepth 100000
set_option maxHeartbeats 4000000
open Go.RowKit
set_option linter.unusedVariables false

/-- Where a draw stands: a flash in block F, its rows within [lo, F); the cursor at p. -/
structure D9 (w W : World) (p : Nat) (a : Option Addr) (n c lo F g cg g' cg' k : Nat) (bs ws : List Int) : Prop where
  fa : Fa W lo F (some ⟨g, 0, none⟩) 3072 cg (some ⟨g', 0, none⟩) 48 cg' bs ws
  byt : ∀ x ∈ bs, 0 ≤ x ∧ x < 256
  wr : ∀ x ∈ ws, 0 ≤ x ∧ x ≤ (k : Int)
  cu : Cur W p a n c
  gr : w.grownBy W (some p)
  rz : Arr W w.heap.size 25 [.slice none 0 0, .slice none 0 0]
  lo1 : w.heap.size + 1 ≤ lo
  p0 : p < w.heap.size
section
variable {w W W' : World} {p : Nat} {a : Option Addr} {n c lo F g cg g' cg' k : Nat} {bs ws : List Int}
theorem D9.cur (h : D9 w W p a n c lo F g cg g' cg' k bs ws) (hc : Cur W' p a n c) (hg : W.grownBy W' (some p)) : D9 w W' p a n c lo F g cg g' cg' k bs ws := by
  have h1 := h.lo1
  have h2 := h.p0
  have ch : Chg W W' p (p + 1) := ⟨hg.os, hg.tape, hg.output, hg.size, fun i hi hj => hg.block i hi (fun e => by injection e with e; omega)⟩
  exact ⟨h.fa.chg ch (by omega), h.byt, h.wr, hc, grown_trans h.gr hg, h.rz.chg ch (by omega), h1, h2⟩
theorem D9.below (h : D9 w W p a n c lo F g cg g' cg' k bs ws) (hb : Below W.heap.size W W') : D9 w W' p a n c lo F g cg g' cg' k bs ws := by
  have ch : Chg W W' 0 0 := .of_below hb 0
  exact ⟨h.fa.chg ch (.inr (.inr (Nat.le_refl _))), h.byt, h.wr, cur_keep h.cu (grown_of_below (row := none) hb) (by simp), grown_trans h.gr (grown_of_below hb), h.rz.kept hb, h.lo1, h.p0⟩
theorem D9.g1 (h : D9 w W p a n c lo F g cg g' cg' k bs ws) : lo ≤ g ∧ g < F ∧ lo ≤ g' ∧ g' < F ∧ g ≠ g' := by
  have h1 := h.fa.ib g rfl
  have h2 := h.fa.iw g' rfl
  exact ⟨h1.1, h1.2, h2.1, h2.2, fun e => h.fa.o.ap g rfl (by rw [e]; rfl)⟩
theorem D9.turn (h : D9 w W p a n c lo F g cg g' cg' k bs ws) {m : Nat} {bs' ws' : List Int} (hg : Gr2 W W' (some g) (some g')) (o1 : W'.ownsRow lo 5 1 (.slice (some ⟨g, 0, none⟩) 3072 cg) 3072 (U8 bs')) (o2 : W'.ownsRow lo 3 1 (.slice (some ⟨g', 0, none⟩) 48 cg') 48 (I64 ws'))
    (hb : ∀ x ∈ bs', 0 ≤ x ∧ x < 256) (hw : ∀ x ∈ ws', 0 ≤ x ∧ x ≤ (m : Int)) : D9 w W' p a n c lo F g cg g' cg' m bs' ws' := by
  have h1 := h.lo1
  have h2 := h.p0
  obtain ⟨q1, q2, q3, q4, _⟩ := h.g1
  refine ⟨⟨hg.arr h.fa.p (by intro e; injection e with e; omega) (by intro e; injection e with e; omega), ⟨o1, o2, h.fa.o.ap⟩, h.fa.ib, h.fa.iw, h.fa.lp⟩, hb, hw, ?_, ?_, hg.arr h.rz (by intro e; injection e with e; omega) (by intro e; injection e with e; omega), h1, h2⟩
  · obtain ⟨i, hh, hi, hp⟩ := h.cu
    exact ⟨i, hh, hi, (hg.block p (Array.getElem?_eq_some_iff.1 hp).1 (by intro e; injection e with e; omega) (by intro e; injection e with e; omega)).trans hp⟩
  · have g0 := h.gr
    exact ⟨hg.os.trans g0.os, hg.tape.trans g0.tape, hg.output.trans g0.output, Nat.le_trans g0.size hg.size, fun i hi hne => by
      rw [hg.block i (Nat.lt_of_lt_of_le hi g0.size) (by intro e; injection e with e; omega) (by intro e; injection e with e; omega)]
      exact g0.block i hi hne⟩
end
theorem gr2_of_grown {W W' : World} {g g' : Nat} (h : W.grownBy W' (some g)) : Gr2 W W' (some g) (some g') := ⟨h.os, h.tape, h.output, h.size, fun i hi n1 _ => h.block i hi n1⟩

theorem get_wear {ws : List Int} {k : Nat} (h : ∀ x ∈ ws, 0 ≤ x ∧ x ≤ (k : Int)) {S : Nat} (hS : S < ws.length) : 0 ≤ ws.getD S 0 ∧ ws.getD S 0 ≤ (k : Int) := by
  have e : ws.getD S 0 = ws[S] := by simp [hS]
  rw [e]
  exact h _ (List.getElem_mem hS)

theorem curDraw9 (p : Nat) (a : Option Addr) (n c : Nat) (xs : List Int) (w : World) (hcur : Cur w p a n c) (hcode : Coded w p a n c xs) :
    Calls Try.prog 85 #[.pointer (some ⟨p, 0, none⟩)] w fun e w' => ∃ g cg g' cg' bs ws, e = .returned (flV (some ⟨g, 0, none⟩) 3072 cg (some ⟨g', 0, none⟩) 48 cg') ∧ OwnFl w.heap.size w' (some ⟨g, 0, none⟩) 3072 cg (some ⟨g', 0, none⟩) 48 cg' bs ws ∧ (∀ x ∈ bs, 0 ≤ x ∧ x < 256) ∧ (∀ x ∈ ws, 0 ≤ x ∧ x ≤ 6) ∧ Cur w' p a n c ∧ w.grownBy w' (some p) := by
  have hp0 := cur_lt hcur
  have HB1 : Hid (∀ x ∈ List.replicate 3072 (255 : Int), 0 ≤ x ∧ x < 256) := by intro x hx; rw [List.mem_replicate] at hx; omega
  have HB2 : Hid (∀ x ∈ List.replicate 48 (0 : Int), 0 ≤ x ∧ x ≤ ((0 : Nat) : Int)) := by intro x hx; rw [List.mem_replicate] at hx; omega
  have HN : Hid (∀ W, Calls Try.prog 35 #[] W fun e w' => ∃ v, e = .returned v ∧ IsFl W w' v (List.replicate 3072 255) (List.replicate 48 0) ∧ Below W.heap.size W w') := fun W => flashNew_s W
  have l1 : (List.replicate 3072 (255 : Int)).length = 3072 := List.length_replicate
  have l2 : (List.replicate 48 (0 : Int)).length = 48 := List.length_replicate
  generalize List.replicate 3072 (255 : Int) = LB at HB1 HN l1
  generalize List.replicate 48 (0 : Int) = LW at HB2 HN l2
  have HL1 : Hid _ := l1
  have HL2 : Hid _ := l2
  clear l1 l2
  obtain ⟨V, hV⟩ : ∃ V, V = w.alloc (.cells #[.slice none 0 0, .slice none 0 0] 25) := ⟨_, rfl⟩
  have bV : Below w.heap.size w V := by rw [hV]; exact (Below.refl _ _).alloc (Nat.le_refl _) _
  have AV : Arr V w.heap.size 25 [.slice none 0 0, .slice none 0 0] := by rw [hV]; exact Arr.new _ _ _
  have zV : w.heap.size + 1 ≤ V.heap.size := by rw [hV]; simp
  go_enter Try.func85, Try.ntmps85
  go_wp2_with fail
  rw [← hV]
  clear hV
  refine Calls.mono (HN.out _) ?_
  rintro e w1 ⟨v, rfl, f, b1⟩
  obtain ⟨a1, cg, a2, cg', rfl, O⟩ := f
  rw [HL1.out, HL2.out] at O ⊢
  obtain ⟨g, c1, e1⟩ := row_shape O.ob (by omega)
  injection e1 with e1 e2 e3
  subst e1
  obtain ⟨g', c2, e4⟩ := row_shape O.ow (by omega)
  injection e4 with e4 e5 e6
  subst e4
  clear e2 e3 e5 e6
  have z1 := b1.size
  have FA : Fa (w1.alloc (.cells #[.slice (some ⟨g, 0, none⟩) 3072 cg, .slice (some ⟨g', 0, none⟩) 48 cg'] 25)) V.heap.size w1.heap.size (some ⟨g, 0, none⟩) 3072 cg (some ⟨g', 0, none⟩) 48 cg' LB LW := Fa.new O z1
  obtain ⟨X, hX⟩ : ∃ X, X = w1.alloc (.cells #[.slice (some ⟨g, 0, none⟩) 3072 cg, .slice (some ⟨g', 0, none⟩) 48 cg'] 25) := ⟨_, rfl⟩
  rw [← hX] at FA
  have bX : Below w.heap.size w X := by rw [hX]; exact (bV.trans (b1.mono bV.size)).alloc (Nat.le_trans bV.size z1) _
  have D0 : D9 w X p a n c V.heap.size w1.heap.size g cg g' cg' 0 LB LW := ⟨FA, HB1.out, HB2.out, cur_keep hcur (grown_of_below (row := none) bX) (by simp), grown_of_below bX, by rw [hX]; exact ((AV.kept b1).alloc _), zV, hp0⟩
  clear FA bX O b1 AV bV HN hcur
  go_wp2_with fail
  rw [← hX]
  clear hX
  refine (curBelow p a n c xs _ _ D0.cu (hcode.grown D0.gr) (by omega)).mono ?_
  rintro e w2 ⟨N, rfl, hN0, hN1, _, hc2, hg2⟩
  have hN2 := hN1 (by omega)
  replace D0 := D0.cur hc2 hg2
  clear hN1 hc2 hg2
  obtain ⟨M, rfl⟩ := Int.eq_ofNat_of_zero_le hN0
  obtain ⟨lo, hlo⟩ : ∃ lo, lo = V.heap.size := ⟨_, rfl⟩
  obtain ⟨F, hF⟩ : ∃ F, F = w1.heap.size := ⟨_, rfl⟩
  rw [← hlo, ← hF] at D0
  rw [← hF]
  clear hlo hF z1 zV
  go_wp2
  go_loopw [5] (fun i wr => ∃ (k : Nat) (bs ws : List Int), k ≤ M ∧ i = .int .i64 (k : Int) ∧ D9 w wr p a n c lo F g cg g' cg' k bs ws) (fun i _ => M - (intOf i).toNat)
  case atStart => exact ⟨0, LB, LW, by omega, rfl, D0⟩
  case round =>
    obtain ⟨k, bs, ws, hk, rfl, D⟩ := hrel
    clear D0 HB1 HB2 HL1 HL2
    by_cases hlt : k < M
    case neg =>
      have hkn : k = M := by omega
      subst hkn
      have dQ := D.fa.cells
      have dR := arr2 D.rz
      have fR := D.rz.frozen
      have lR := D.rz.lt
      have lQ := D.fa.p.lt
      have q0 := D.lo1
      obtain ⟨q1, q2, q3, q4, q5⟩ := D.g1
      have hp1 := D.p0
      have K : Arr ((wr.setCell ⟨w.heap.size, 0, none⟩ (.slice (some ⟨g, 0, none⟩) 3072 cg)).setCell ⟨w.heap.size, 1, none⟩ (.slice (some ⟨g', 0, none⟩) 48 cg')) w.heap.size 25 [.slice (some ⟨g, 0, none⟩) 3072 cg, .slice (some ⟨g', 0, none⟩) 48 cg'] := (D.rz.set 0 _).set 1 _
      have OF : OwnFl w.heap.size ((wr.setCell ⟨w.heap.size, 0, none⟩ (.slice (some ⟨g, 0, none⟩) 3072 cg)).setCell ⟨w.heap.size, 1, none⟩ (.slice (some ⟨g', 0, none⟩) 48 cg')) (some ⟨g, 0, none⟩) 3072 cg (some ⟨g', 0, none⟩) 48 cg' bs ws := ((D.fa.o.setO w.heap.size 0 _ (by omega)).setO w.heap.size 1 _ (by omega)).base (by omega)
      have GF : w.grownBy ((wr.setCell ⟨w.heap.size, 0, none⟩ (.slice (some ⟨g, 0, none⟩) 3072 cg)).setCell ⟨w.heap.size, 1, none⟩ (.slice (some ⟨g', 0, none⟩) 48 cg')) (some p) := grown_into (grown_into D.gr (cur_grown2 _ w.heap.size _ _) (fun k hk => by injection hk with hk; omega)) (cur_grown2 _ w.heap.size _ _) (fun k hk => by injection hk with hk; omega)
      have CF : Cur ((wr.setCell ⟨w.heap.size, 0, none⟩ (.slice (some ⟨g, 0, none⟩) 3072 cg)).setCell ⟨w.heap.size, 1, none⟩ (.slice (some ⟨g', 0, none⟩) 48 cg')) p a n c := cur_keep (cur_keep D.cu (cur_grown2 _ w.heap.size _ _) (by intro e; injection e with e; omega)) (cur_grown2 _ w.heap.size _ _) (by intro e; injection e with e; omega)
      have HK : Hid _ := K
      have HO : Hid _ := OF
      have HG : Hid _ := GF
      have HC : Hid _ := CF
      have hby := D.byt
      have hwr : ∀ x ∈ ws, 0 ≤ x ∧ x ≤ 6 := fun x hx => by have := D.wr x hx; omega
      have HY : Hid _ := hby
      have HW : Hid _ := hwr
      clear K OF GF CF hby hwr D
      go_wp2
      exact bodyPost_ret (results_cell_row rfl _ _ w.heap.size 25 _ (0, 0) _ rfl HK.out Try.underlying25 rfl (by kernel_rfl)) rfl ⟨g, cg, g', cg', bs, ws, rfl, HO.out, HY.out, HW.out, HC.out, HG.out⟩
    have hltI : (k : Int) < (M : Int) := by omega
    go_wp2_with fail
    refine (curMsg p a n c xs _ D.cu (hcode.grown D.gr)).mono ?_
    rintro e w3 ⟨v, l, rfl, hl, A⟩
    have hpr : p < wr.heap.size := cur_lt D.cu
    have lF0 := D.fa.p.lt
    replace D := D.cur A.cur A.gr
    obtain ⟨ab, cb, rfl, _, _⟩ := Bs.own A.own A.byt
    go_wp2_with fail
    refine (curBelow p a n c xs _ _ D.cu (hcode.grown D.gr) (by omega)).mono ?_
    rintro e w4 ⟨x0, rfl, hx0, hx1, _, hc4, hg4⟩
    have hx2 := hx1 (by omega)
    obtain ⟨I, rfl⟩ := Int.eq_ofNat_of_zero_le hx0
    have ow4 := A.own1 hpr hg4
    have hby4 := A.byt
    have lb4 := (Ro.new A.own).i
    replace D := D.cur hc4 hg4
    clear hc4 hg4 hx1 A
    obtain ⟨nb, hnb⟩ : ∃ nb, nb = l.length := ⟨_, rfl⟩
    rw [← hnb] at ow4 lb4 hl ⊢
    clear hnb
    have hbs4 := bs_of_own ow4 hby4
    go_wp2_with fail
    refine (specMay I nb _ (by omega) (by omega) (by omega) (by omega)).mono ?_
    rintro e w5 ⟨rfl, hw⟩
    rw [hw]
    clear hw
    by_cases hz : mayC I nb = 0
    case neg =>
      have hz' : (mayC I nb == 0) = false := by simpa using hz
      clear hz ow4 hbs4
      go_wp2_with fail
      refine (curOnce p a n c xs _ _ D.cu (hcode.grown D.gr) (by omega)).mono ?_
      rintro e w6 ⟨q, rfl, hc6, hg6⟩
      replace D := D.cur hc6 hg6
      clear hc6 hg6
      cases q with
      | false =>
        have DF : D9 w w6 p a n c lo F g cg g' cg' (k + 1) _ _ := ⟨D.fa, D.byt, fun x hx => by have := D.wr x hx; omega, D.cu, D.gr, D.rz, D.lo1, D.p0⟩
        clear D
        go_wp2
        go_roundw
        case rel => exact ⟨k + 1, _, _, by omega, by go_num, DF⟩
        case measure => simp [intOf]; omega
      | true =>
        go_wp2_with fail
        refine (curBelow p a n c xs _ _ D.cu (hcode.grown D.gr) (by omega)).mono ?_
        rintro e w7 ⟨S0, rfl, hS0, hS1, _, hc7, hg7⟩
        have hS2 := hS1 (by omega)
        obtain ⟨S, rfl⟩ := Int.eq_ofNat_of_zero_le hS0
        replace D := D.cur hc7 hg7
        clear hc7 hg7 hS1
        go_wp2_with fail
        refine (curByte p a n c xs _ D.cu (hcode.grown D.gr)).mono ?_
        rintro e w8 ⟨y, rfl, hy0, hy1, hc8, hg8⟩
        replace D := D.cur hc8 hg8
        clear hc8 hg8
        have hcv : IntKind.u8.wrap y = y := by simp [IntKind.wrap, IntKind.signed, IntKind.bits]; omega
        obtain ⟨Y, hY⟩ : ∃ Y, Y = w8.alloc (.cells #[.int .u8 y] 5) := ⟨_, rfl⟩
        have hby : Bs Y (some ⟨w8.heap.size, 0, none⟩) 1 1 [y] := by rw [hY]; exact Bs.one w8 y (by omega) (by omega)
        have bY : Below w8.heap.size w8 Y := by rw [hY]; exact (Below.refl _ _).alloc (Nat.le_refl _) _
        have lF := D.fa.p.lt
        obtain ⟨q1, q2, q3, q4, q5⟩ := D.g1
        replace D := D.below bY
        clear bY
        go_wp2_with fail
        rw [← hY]
        clear hY
        have hwl : _ = 48 := (own_shapeI D.fa.o.ow).1
        have hws := fun x hx => D.wr x hx
        have hwS := get_wear D.wr (show S < _ by rw [hwl]; omega)
        refine (specEraseB lo F g 3072 cg g' 48 cg' _ _ S (some ⟨w8.heap.size, 0, none⟩) 1 1 [y] _ D.fa.p (by omega) (by omega) q5 D.fa.o.ob D.fa.o.ow hby (.inr (by intro r hr; injection hr with hr; subst hr; simp only; omega)) (.inr (by intro r hr; injection hr with hr; subst hr; simp only; omega)) (by omega) (by omega) (by omega) (by omega) hwS.1 (by omega)).mono ?_
        rintro e w9 ⟨⟨v9, rfl⟩, o9, p9, g9⟩
        have DF := D.turn (m := k + 1) g9 o9 p9 (tn_byte D.byt (ef_byte _) _ _) (fun x hx => by
          rcases List.mem_or_eq_of_mem_set hx with hx | hx
          · have := D.wr x hx; omega
          · omega)
        clear D hby o9 p9 g9 hws hwS hwl
        go_wp2
        go_roundw
        case rel => exact ⟨k + 1, _, _, by omega, by go_num, DF⟩
        case measure => simp [intOf]; omega
    obtain ⟨j1, j2⟩ := mayC_zero hz
    obtain ⟨j3, j4, j5⟩ := inF_iff.1 j1
    rw [hz]
    obtain ⟨Z, hZ⟩ : ∃ Z, Z = w4.alloc (.cells #[.int .u8 255] 5) := ⟨_, rfl⟩
    have hz5 : Bs Z (some ⟨w4.heap.size, 0, none⟩) 1 1 [255] := by rw [hZ]; exact Bs.one w4 255 (by omega) (by omega)
    have bZ : Below w4.heap.size w4 Z := by rw [hZ]; exact (Below.refl _ _).alloc (Nat.le_refl _) _
    have lF4 := D.fa.p.lt
    obtain ⟨r1, r2, r3, r4, r5⟩ := D.g1
    replace D := D.below bZ
    have hbs5 := hbs4.below bZ
    clear bZ hbs4 hz j1 j2
    go_wp2_with fail
    rw [← hZ]
    clear hZ
    have hoff : OffB ab nb g := by
      by_cases h0 : nb = 0
      · exact .inl h0
      · obtain ⟨gq, cq, eq⟩ := row_shape ow4 (by omega)
        injection eq with eq
        subst eq
        refine .inr fun r hr => ?_
        injection hr with hr
        subst hr
        have := (lb4 gq rfl).1
        simp only
        omega
    refine (specProgramB lo F g 3072 cg _ _ I ab nb cb l (some ⟨w4.heap.size, 0, none⟩) 1 1 [255] _ D.fa.p (by omega) D.fa.o.ob hbs5 hz5 hoff (.inr (by intro r hr; injection hr with hr; subst hr; simp only; omega)) (by omega) (by omega) (by omega)).mono ?_
    rintro e w5 ⟨⟨v5, rfl⟩, o5, g5⟩
    have D5 := D.turn (m := k) (gr2_of_grown g5) o5 (own_kept (u := .slice (some ⟨g, 0, none⟩) 3072 cg) D.fa.o.ow g5 D.fa.o.ap) (tn_byte D.byt (pf_byte _ _) _ _) D.wr
    clear D hbs5 hz5 hoff o5 g5 ow4
    have D := D5
    clear D5
    go_wp2_with fail
    refine (curOnce p a n c xs _ _ D.cu (hcode.grown D.gr) (by omega)).mono ?_
    rintro e w6 ⟨q, rfl, hc6, hg6⟩
    replace D := D.cur hc6 hg6
    clear hc6 hg6
    cases q with
    | false =>
      have DF : D9 w w6 p a n c lo F g cg g' cg' (k + 1) _ _ := ⟨D.fa, D.byt, fun x hx => by have := D.wr x hx; omega, D.cu, D.gr, D.rz, D.lo1, D.p0⟩
      clear D
      go_wp2
      go_roundw
      case rel => exact ⟨k + 1, _, _, by omega, by go_num, DF⟩
      case measure => simp [intOf]; omega
    | true =>
      go_wp2_with fail
      refine (curBelow p a n c xs _ _ D.cu (hcode.grown D.gr) (by omega)).mono ?_
      rintro e w7 ⟨S0, rfl, hS0, hS1, _, hc7, hg7⟩
      have hS2 := hS1 (by omega)
      obtain ⟨S, rfl⟩ := Int.eq_ofNat_of_zero_le hS0
      replace D := D.cur hc7 hg7
      clear hc7 hg7 hS1
      go_wp2_with fail
      refine (curByte p a n c xs _ D.cu (hcode.grown D.gr)).mono ?_
      rintro e w8 ⟨y, rfl, hy0, hy1, hc8, hg8⟩
      replace D := D.cur hc8 hg8
      clear hc8 hg8
      have hcv : IntKind.u8.wrap y = y := by simp [IntKind.wrap, IntKind.signed, IntKind.bits]; omega
      obtain ⟨Y, hY⟩ : ∃ Y, Y = w8.alloc (.cells #[.int .u8 y] 5) := ⟨_, rfl⟩
      have hby : Bs Y (some ⟨w8.heap.size, 0, none⟩) 1 1 [y] := by rw [hY]; exact Bs.one w8 y (by omega) (by omega)
      have bY : Below w8.heap.size w8 Y := by rw [hY]; exact (Below.refl _ _).alloc (Nat.le_refl _) _
      have lF := D.fa.p.lt
      obtain ⟨q1, q2, q3, q4, q5⟩ := D.g1
      replace D := D.below bY
      clear bY
      go_wp2_with fail
      rw [← hY]
      clear hY
      have hwl : _ = 48 := (own_shapeI D.fa.o.ow).1
      have hws := fun x hx => D.wr x hx
      have hwS := get_wear D.wr (show S < _ by rw [hwl]; omega)
      refine (specEraseB lo F g 3072 cg g' 48 cg' _ _ S (some ⟨w8.heap.size, 0, none⟩) 1 1 [y] _ D.fa.p (by omega) (by omega) q5 D.fa.o.ob D.fa.o.ow hby (.inr (by intro r hr; injection hr with hr; subst hr; simp only; omega)) (.inr (by intro r hr; injection hr with hr; subst hr; simp only; omega)) (by omega) (by omega) (by omega) (by omega) hwS.1 (by omega)).mono ?_
      rintro e w9 ⟨⟨v9, rfl⟩, o9, p9, g9⟩
      have DF := D.turn (m := k + 1) g9 o9 p9 (tn_byte D.byt (ef_byte _) _ _) (fun x hx => by
        rcases List.mem_or_eq_of_mem_set hx with hx | hx
        · have := D.wr x hx; omega
        · omega)
      clear D hby o9 p9 g9 hws hwS hwl
      go_wp2
      go_roundw
      case rel => exact ⟨k + 1, _, _, by omega, by go_num, DF⟩
      case measure => simp [intOf]; omega
end Go.Proofs.Ytcnlpdpbkkjkoaa

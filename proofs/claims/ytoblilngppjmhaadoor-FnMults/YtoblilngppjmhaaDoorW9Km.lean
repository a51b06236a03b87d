/-
  What is proved here: the contract of the specification's l5draw: a multiplier, drawn out of a code; the contract of the specification's l5bent: a multiplier, drawn out of a code and now and then bent; the contract of the specification's DrawPtMul.
-/
import Derived.Test.YtoblilngppjmhaaDoorW9Kdt
import Derived.Test.YtoblilngppjmhaaDoorW9Arr
import Derived.Test.YtoblilngppjmhaaDoorW9Dr
import Derived.Test.YtoblilngppjmhaaDoorW9Qhl
import Derived.Test.YtoblilngppjmhaaDoorW9Un
namespace Go.Proofs.YtoblilngppjmhaaDoor
open Go.RowKit
set_option maxRecDepth 100000

theorem lim_okO {x : Int} (h0 : 0 ≤ x) (h1 : x < qO) : scOk (lim 16 x) = true :=
  (scOk_iff _).2 ⟨lim_len _ _, lim_lm _ _, by rw [val_lim, p256]; unfold qO at *; omega⟩
theorem tk_okO {x : Int} (h0 : 0 < x) (h1 : x < qO) : scOk (tk16 OL (lim 16 x)) = true := by
  rw [tk16_lim OL_len (lim_len _ _), OL_val, val_lim, p256]
  refine lim_okO ?_ ?_ <;> (unfold qO at *; omega)
set_option maxHeartbeats 2000000 in
theorem curDraw5 (p : Nat) (a : Option Addr) (n c : Nat) (xs : List Int) (w : World) (hcur : Cur w p a n c) (hcode : Coded w p a n c xs) :
    Calls Tryd.prog 115 #[.pointer (some ⟨p, 0, none⟩)] w fun e w' => ∃ l, e = .returned (.agg (I64 l).toArray) ∧ scOk l = true ∧ Cur w' p a n c ∧ w.grownBy w' (some p) := by
  have hp0 := cur_lt hcur
  obtain ⟨W, hW⟩ : ∃ W, W = w.alloc (.cells #[.int .i64 0, .int .i64 0, .int .i64 0, .int .i64 0, .int .i64 0, .int .i64 0, .int .i64 0, .int .i64 0, .int .i64 0, .int .i64 0, .int .i64 0, .int .i64 0, .int .i64 0, .int .i64 0, .int .i64 0, .int .i64 0] 82) := ⟨_, rfl⟩
  have DD : Dq w W p a n c xs := by
    rw [hW]
    exact ⟨grown_alloc _ _ _, cur_keep hcur (grown_alloc _ _ none) (by simp), hcode, Arr.new w (I64 Z16) _, hp0⟩
  have FIN : Hid (∀ (V : World) (l : List Int), Dq w V p a n c xs → l.length = 16 → Cur (V.setRow w.heap.size (I64 l).toArray) p a n c ∧ w.grownBy (V.setRow w.heap.size (I64 l).toArray) (some p)) := by
    unfold Hid
    intro V l D _
    have hb := setRow_below (B := w.heap.size) (w := V) (w' := V) (Below.refl _ _) w.heap.size (I64 l).toArray (Nat.le_refl _)
    have hg : V.grownBy (V.setRow w.heap.size (I64 l).toArray) (some w.heap.size) := ⟨hb.os, hb.tape, hb.output, hb.size, fun k hk hne => setRow_other V w.heap.size k _ (fun e => hne (by rw [e]))⟩
    refine ⟨cur_keep D.cur hg (by intro e; have := Option.some.inj e; omega), ?_⟩
    exact grown_into D.gr hg (by intro k hk; cases hk; exact .inl (Nat.le_refl _))
  go_enter Tryd.func115, Tryd.ntmps115
  go_wp2_with fail
  rw [← hW]
  clear hW hcur hcode
  refine (curOnce p a n c xs 3 _ DD.cur DD.cod (by omega)).mono ?_
  rintro e w1 ⟨x1, rfl, hc1, hg1⟩
  replace DD := DD.draw hc1 hg1
  clear hc1 hg1
  cases x1 with
  | true =>
    have hcl := cells_arr w1 [0, 1, 2, 8, 65535] 3
    have hpw := cur_lt DD.cur
    replace DD := DD.alloc (.cells ([0, 1, 2, 8, 65535].map (Value.int .i64)).toArray 3)
    go_wp2_with fail
    refine (curPick p a n c xs w1.heap.size 5 [0, 1, 2, 8, 65535] _ DD.cur DD.cod rfl (by omega) (by omega) (by omega) hcl).mono ?_
    rintro e w2 ⟨x, rfl, hx, hc2, hg2⟩
    replace DD := DD.draw hc2 hg2
    have hxb : 0 ≤ x ∧ x < 9223372036854775808 := by simp at hx; omega
    clear hc2 hg2 hcl hpw hx
    go_wp2_with fail
    refine (specSmall x _ hxb.1 hxb.2).mono ?_
    rintro e w3 ⟨rfl, hb3⟩
    replace DD := DD.calm hb3
    clear hb3
    have hok := lim_okO (x := x) hxb.1 (by unfold qO; omega)
    obtain ⟨R, hR⟩ : ∃ R, R = lim 16 x := ⟨_, rfl⟩
    rw [← hR] at hok ⊢
    clear hR
    have hRl := ((scOk_iff R).1 hok).1
    have hpz := DD.pz
    have hp2 := hpz.row (I64 R)
    have HF : Hid _ := FIN.out _ R DD hRl
    clear DD FIN
    go_wp2_with (refine wpList_store_row rfl 82 _ _ rfl w.heap.size (I64 R).toArray rfl rfl 82 _ hpz (by simpa [hRl] using infoE) (by simp [hRl]) (by simp [Value.oneCell']) ?_)
    exact bodyPost_ret (results_cell_row rfl _ _ w.heap.size 82 (I64 R).toArray (0, 0) _ rfl hp2 Tryd.underlying82 rfl (by simpa [hRl] using infoE)) rfl ⟨R, rfl, hok, HF.out.1, HF.out.2⟩
  | false =>
    go_wp2_with fail
    refine (curOnce p a n c xs 3 _ DD.cur DD.cod (by omega)).mono ?_
    rintro e w2 ⟨x2, rfl, hc2, hg2⟩
    replace DD := DD.draw hc2 hg2
    clear hc2 hg2
    cases x2 with
    | true =>
      go_wp2_with fail
      refine (specOrder _).mono ?_
      rintro e w3 ⟨rfl, hb3⟩
      replace DD := DD.calm hb3
      clear hb3
      go_wp2_with fail
      refine (curBelow p a n c xs 9 _ DD.cur DD.cod (by omega)).mono ?_
      rintro e w4 ⟨j, rfl, hj0, hj1, _, hc4, hg4⟩
      replace hj1 := hj1 (by omega)
      replace DD := DD.draw hc4 hg4
      clear hc4 hg4
      have hw : IntKind.i64.wrap (1 + j) = 1 + j := by rw [IntKind.wrap_i64]; omega
      go_wp2_with fail
      refine (specSmall (1 + j) _ (by omega) (by omega)).mono ?_
      rintro e w5 ⟨rfl, hb5⟩
      replace DD := DD.calm hb5
      clear hb5
      go_wp2_with fail
      refine (specTake OL (lim 16 (1 + j)) _ OL_len (lim_len _ _) OL_lm (lim_lm _ _)).mono ?_
      rintro e w6 ⟨rfl, hb6⟩
      replace DD := DD.calm hb6
      clear hb6
      have hok := tk_okO (x := 1 + j) (by omega) (by unfold qO; omega)
      obtain ⟨R, hR⟩ : ∃ R, R = tk16 OL (lim 16 (1 + j)) := ⟨_, rfl⟩
      rw [← hR] at hok ⊢
      clear hR
      have hRl := ((scOk_iff R).1 hok).1
      have hpz := DD.pz
      have hp2 := hpz.row (I64 R)
      have HF : Hid _ := FIN.out _ R DD hRl
      clear DD FIN
      go_wp2_with (refine wpList_store_row rfl 82 _ _ rfl w.heap.size (I64 R).toArray rfl rfl 82 _ hpz (by simpa [hRl] using infoE) (by simp [hRl]) (by simp [Value.oneCell']) ?_)
      exact bodyPost_ret (results_cell_row rfl _ _ w.heap.size 82 (I64 R).toArray (0, 0) _ rfl hp2 Tryd.underlying82 rfl (by simpa [hRl] using infoE)) rfl ⟨R, rfl, hok, HF.out.1, HF.out.2⟩
    | false =>
      have hs0 := DD.pz.lt
      obtain ⟨B, hB⟩ : ∃ B, B = w2.heap.size := ⟨_, rfl⟩
      go_wp2
      rw [← hB] at hs0
      go_loopw [3, 4] (fun v i wr => ∃ (k : Nat) (l : List Int), k ≤ 16 ∧ i = .int .i64 k ∧ l.length = k ∧ Lm l ∧ wr.ownsRow B 3 1 v k (I64 l) ∧ Dq w wr p a n c xs ∧ B ≤ wr.heap.size) (fun _ i _ => 16 - (intOf i).toNat)
      case atStart => exact ⟨0, [], by omega, rfl, rfl, by intro x hx; simp at hx, by simpa using World.ownsRow_nil _ _ _ _, DD, by omega⟩
      case round =>
        clear DD hB
        obtain ⟨k, l, hk, rfl, hl, hm, ho, DD, hs⟩ := hrel
        have hp := DD.hp
        by_cases hlt : k < 16
        · have hk16 : (k : Int) < 16 := by omega
          have hk0 : (0 : Int) ≤ (k : Int) := by omega
          go_wp2_with fail
          refine (curBelow p a n c xs 65536 _ DD.cur DD.cod (by omega)).mono ?_
          rintro e w3 ⟨x, rfl, hx0, hx1, _, hc3, hg3⟩
          replace hx1 := hx1 (by omega)
          replace DD := DD.draw hc3 hg3
          have ho3 := ho.kept hg3 (.inr (fun e => by have h1 := (ho.lt p e).1; omega))
          have hs3 := Nat.le_trans hs hg3.size
          clear hc3 hg3 ho
          go_wp2_with (at_builtin; refine wpl_append_is rfl _ _ rfl B _ k l rfl (some ⟨w3.heap.size, 0, none⟩) 1 1 [x] rfl (ho3.alloc _) ?_ ?_ ?_ ?_)
          · exact Is.one _ _ (by omega) (by omega)
          · omega
          · first | omega | (simp; omega)
          intro v' w' h1 h2 _
          have hbA : Below B w3 w' := ((Below.refl _ _).alloc (by omega) _).grown h2 (by simp; omega) (fun j hj => (ho3.lt j hj).1)
          have DA := DD.alloc (.cells #[.int .i64 x] 3)
          have D1 : Dq w w' p a n c xs := ⟨grown_into DA.gr h2 (fun j hj => .inl (by have h3 := (ho3.lt j hj).1; omega)), cur_keep DA.cur h2 (fun e => by have h3 := (ho3.lt p e).1; omega), DD.cod0, DD.pz.below hbA hs0, DD.hp⟩
          have hs' := Nat.le_trans hs3 hbA.size
          have HR : Hid (w'.ownsRow B 3 1 v' (k + 1) (I64 (l ++ [x]))) := by unfold Hid; simpa using h1
          clear h1 h2 ho3 DD DA hbA
          go_wp2
          go_roundw
          case rel => exact ⟨k + 1, l ++ [x], by omega, by go_num, by simp [hl], by intro y hy; rcases List.mem_append.1 hy with h | h; exact hm y h; simp at h; omega, HR.out, D1, hs'⟩
          case measure => simp [intOf]; omega
        · obtain rfl : k = 16 := by omega
          obtain ⟨aL, cL, rfl, _, hIs⟩ := Is.own ho (fun x hx => by have := hm x hx; omega)
          have HM : Hid (Calls Tryd.prog 141 #[.slice aL 16 cL] wr fun e w' => e = .returned (.agg (I64 (redO (val l))).toArray) ∧ Below wr.heap.size wr w') := specMod aL 16 cL l wr hIs hm (by omega)
          clear ho hIs
          go_wp2_with fail
          refine HM.out.mono ?_
          rintro e w4 ⟨rfl, hb4⟩
          replace DD := DD.calm hb4
          clear hb4 HM
          have hok := redO_ok (val l)
          obtain ⟨R, hR⟩ : ∃ R, R = redO (val l) := ⟨_, rfl⟩
          rw [← hR] at hok ⊢
          clear hR
          have hRl := ((scOk_iff R).1 hok).1
          have hpz := DD.pz
          have hp2 := hpz.row (I64 R)
          have HF : Hid _ := FIN.out _ R DD hRl
          clear DD FIN
          go_wp2_with (refine wpList_store_row rfl 82 _ _ rfl w.heap.size (I64 R).toArray rfl rfl 82 _ hpz (by simpa [hRl] using infoE) (by simp [hRl]) (by simp [Value.oneCell']) ?_)
          exact bodyPost_ret (results_cell_row rfl _ _ w.heap.size 82 (I64 R).toArray (0, 0) _ rfl hp2 Tryd.underlying82 rfl (by simpa [hRl] using infoE)) rfl ⟨R, rfl, hok, HF.out.1, HF.out.2⟩
end Go.Proofs.YtoblilngppjmhaaDoor
namespace Go.Proofs.YtoblilngppjmhaaDoor
open Go.RowKit
set_option maxRecDepth 100000

/-- Where a number stands while it is bent. -/
structure Bz5 (w X : World) (p P g C : Nat) (a : Option Addr) (n c : Nat) (xs l : List Int) : Prop where
  gr : w.grownBy X (some p)
  cur : Cur X p a n c
  cod0 : Coded w p a n c xs
  p2 : Arr X w.heap.size 37 [.slice none 0 0]
  p3 : Arr X P 37 [.slice (some ⟨g, 0, none⟩) 16 C]
  row : Rg4 X g C l
  hp : p < w.heap.size
  hg : w.heap.size < g
  hP : w.heap.size < P
  ne : g ≠ P
section
variable {w X Y : World} {p P g C : Nat} {a : Option Addr} {n c : Nat} {xs l : List Int}
theorem Bz5.cod (h : Bz5 w X p P g C a n c xs l) : Coded X p a n c xs := h.cod0.grown h.gr
theorem Bz5.draw (h : Bz5 w X p P g C a n c xs l) (hc : Cur Y p a n c) (hg : X.grownBy Y (some p)) : Bz5 w Y p P g C a n c xs l :=
  have h1 := h.hp
  have h2 := h.hg
  have h3 := h.hP
  ⟨grown_tr h.gr hg, hc, h.cod0, arr_cur h.p2 hg (by omega), arr_cur h.p3 hg (by omega), h.row.block (hg.block g h.row.lt (fun e => by have := Option.some.inj e; omega)) hg.size, h.hp, h.hg, h.hP, h.ne⟩
theorem Bz5.calm (h : Bz5 w X p P g C a n c xs l) (hb : Below X.heap.size X Y) : Bz5 w Y p P g C a n c xs l :=
  ⟨grown_tr h.gr (below_grown hb _), cur_keep h.cur (below_grown hb none) (by simp), h.cod0, h.p2.kept hb, h.p3.kept hb, h.row.block (hb.block g h.row.lt) hb.size, h.hp, h.hg, h.hP, h.ne⟩
end
/-- The last store. -/
theorem bent_finO {w V : World} {p : Nat} {a a' : Option Addr} {n c n' c' : Nat} {l' : List Int} (gr : w.grownBy V (some p)) (cur : Cur V p a n c) (p2 : Arr V w.heap.size 37 [.slice none 0 0]) (is : Is V a' n' c' l') (off : ∀ b o s, a' = some ⟨b, o, s⟩ → w.heap.size < b) (hn : n' ≤ 16) (hp : p < w.heap.size) :
    (FeV w (V.setCell ⟨w.heap.size, 0, none⟩ (.slice a' n' c')) (.agg #[.slice a' n' c']) l' ∧ Cur (V.setCell ⟨w.heap.size, 0, none⟩ (.slice a' n' c')) p a n c ∧ w.grownBy (V.setCell ⟨w.heap.size, 0, none⟩ (.slice a' n' c')) (some p)) ∧ Arr (V.setCell ⟨w.heap.size, 0, none⟩ (.slice a' n' c')) w.heap.size 37 [.slice a' n' c'] := by
  have gs := cur_grown2 V w.heap.size (.slice a' n' c') 0
  refine ⟨⟨⟨a', n', c', rfl, is_far is w.heap.size 0 _ (fun b o s e => by have := off b o s e; omega), off, hn⟩, cur_keep cur gs (fun e => by have := Option.some.inj e; omega), grown_into gr gs (by intro k hk; cases hk; exact .inl (Nat.le_refl _))⟩, p2.set 0 _⟩

set_option maxHeartbeats 4000000 in
theorem curBent5 (p : Nat) (a : Option Addr) (n c : Nat) (xs : List Int) (w : World) (hcur : Cur w p a n c) (hcode : Coded w p a n c xs) :
    Calls Tryd.prog 65 #[.pointer (some ⟨p, 0, none⟩)] w fun e w' => ∃ v l, e = .returned v ∧ FeV w w' v l ∧ Cur w' p a n c ∧ w.grownBy w' (some p) := by
  have hp0 := cur_lt hcur
  obtain ⟨W, hW⟩ : ∃ W, W = w.alloc (.cells #[.slice none 0 0] 37) := ⟨_, rfl⟩
  have g0 : w.grownBy W (some p) := by rw [hW]; exact grown_alloc _ _ _
  have c0 : Cur W p a n c := by rw [hW]; exact cur_keep hcur (grown_alloc _ _ none) (by simp)
  have z0 : Arr W w.heap.size 37 [.slice none 0 0] := by rw [hW]; exact Arr.new _ _ _
  go_enter Tryd.func65, Tryd.ntmps65
  go_wp2_with fail
  rw [← hW]
  clear hW
  refine (curDraw5 p a n c xs _ c0 (hcode.grown g0)).mono ?_
  rintro e w1 ⟨l, rfl, hok, c1, g1⟩
  obtain ⟨hll, hlm, _⟩ := (scOk_iff l).1 hok
  have G1 := grown_tr g0 g1
  have z1 := arr_cur z0 g1 (by omega)
  clear g0 c0 z0 g1
  go_wp2_with fail
  refine (specScOut l _ hll hlm).mono ?_
  rintro e w2 ⟨aO, cO, rfl, ho, hb2⟩
  have hz := z1.lt
  obtain ⟨g, C, hv, hgB, hrow⟩ := own_row ho hlm
  injection hv with e1 _ e2
  subst e1 e2
  have BB : Bz5 w (w2.alloc (.cells #[.slice (some ⟨g, 0, none⟩) 16 cO] 37)) p w2.heap.size g cO a n c xs l :=
    ⟨grown_tr (grown_tr G1 (below_grown hb2 _)) (grown_alloc _ _ _), cur_keep (cur_keep c1 (below_grown hb2 none) (by simp)) (grown_alloc _ _ none) (by simp), hcode, (z1.kept hb2).alloc _, Arr.new _ _ _, hrow.block (heap_alloc_old _ _ hrow.lt) (by simp), hp0, by omega, (z1.kept hb2).lt, by have := hrow.lt; omega⟩
  clear ho hb2 hrow hgB z1 G1 c1 hcur hz
  obtain ⟨P, hPe⟩ : ∃ P, P = w2.heap.size := ⟨_, rfl⟩
  obtain ⟨X, hX⟩ : ∃ X, X = w2.alloc (.cells #[.slice (some ⟨g, 0, none⟩) 16 cO] 37) := ⟨_, rfl⟩
  rw [← hX, ← hPe] at BB
  go_wp2_with fail
  rw [← hX, ← hPe]
  clear hX hPe
  refine (curOnce p a n c xs 12 _ BB.cur BB.cod (by omega)).mono ?_
  rintro e w3 ⟨x3, rfl, c3, g3⟩
  replace BB := BB.draw c3 g3
  clear c3 g3
  have hgw := BB.hg
  have hPw := BB.hP
  have hne := BB.ne
  have hneP : ¬ P = w.heap.size := by omega
  cases x3 with
  | false =>
    have FF := bent_finO BB.gr BB.cur BB.p2 BB.row.is (fun b o s e => by cases e; exact BB.hg) (by omega) hp0
    have hcP : (w3).cell? ⟨P, 0, none⟩ = some (.slice (some ⟨g, 0, none⟩) 16 cO) := BB.p3.cell 0
    have hc2 : (w3).cell? ⟨w.heap.size, 0, none⟩ = some (.slice none 0 0) := BB.p2.cell 0
    have hf2 := BB.p2.frozen 0
    have HF : Hid _ := FF
    clear FF BB
    go_wp2
    exact bodyPost_ret (results_cell_row rfl _ _ w.heap.size 37 #[.slice (some ⟨g, 0, none⟩) 16 cO] (0, 0) _ rfl HF.out.2 Tryd.underlying37 rfl infoSc) rfl ⟨_, _, rfl, HF.out.1⟩
  | true =>
    go_wp2_with fail
    refine (curBelow p a n c xs 3 _ BB.cur BB.cod (by omega)).mono ?_
    rintro e w5 ⟨k, rfl, hk0, hk1, _, c5, g5⟩
    replace hk1 := hk1 (by omega)
    replace BB := BB.draw c5 g5
    clear c5 g5
    have hcg := BB.row.cell 0 (by omega)
    have hcg15 := BB.row.cell 15 (by omega)
    have hfg := BB.row.fz
    have hcP : w5.cell? ⟨P, 0, none⟩ = some (.slice (some ⟨g, 0, none⟩) 16 cO) := BB.p3.cell 0
    have hfP := BB.p3.frozen 0
    have hcap := BB.row.is.2.2.1
    by_cases e0 : k = 0
    · subst e0
      have hsw := BB.p3.lt
      have hpw := cur_lt BB.cur
      have Bd := BB.calm (Below.refl _ _).drew
      go_wp2
      go_region_held3 (fun W => W.cell? ⟨P, 0, none⟩ = some (.slice (some ⟨g, 0, none⟩) 16 cO)) (first | exact Bd.p3.cell 0 | exact (BB.calm ((Below.refl _ _).alloc (Nat.le_refl _) _).drew).p3.cell 0 | exact B7.p3.cell 0 | exact (B7.p3.other ⟨g, 0, none⟩ _ (by show P ≠ g; omega)).cell 0)
        (first
          | (go_at_call 116
             have B6 := BB.calm ((Below.refl _ w5).alloc (Nat.le_refl _) (.cells (([-1, 65536] : List Int).map (Value.int .i64)).toArray 3)).drew
             have hcell := cells_arr w5 [-1, 65536] 3
             refine (curPick p a n c xs w5.heap.size 2 [-1, 65536] _ B6.cur B6.cod rfl (by omega) (by omega) (by omega) (fun j hj => hcell j hj)).mono ?_
             rintro e w7 ⟨x, rfl, hx, c7, g7⟩
             have B7 := B6.draw c7 g7
             have hxi : -9223372036854775808 ≤ x ∧ x ≤ 9223372036854775807 := by
               simp only [List.mem_cons, List.not_mem_nil, or_false] at hx
               omega
             have hc7 := B7.row.cell 0 (by omega)
             have hf7 := B7.row.fz
             clear hcell B6 c7 g7 hx))
      have hR := B7.row.put 0 (by omega) x hxi
      have gs := cur_grown2 w7 g (.int .i64 x) 0
      have P2 := B7.p2.other ⟨g, 0, none⟩ (.int .i64 x) (by show w.heap.size ≠ g; omega)
      have P3 := B7.p3.other ⟨g, 0, none⟩ (.int .i64 x) (by show P ≠ g; omega)
      have GR := grown_into B7.gr gs (by intro k hk; cases hk; exact .inl (by omega))
      have CU := cur_keep B7.cur gs (fun e => by have := Option.some.inj e; have := B7.hp; omega)
      have FF := bent_finO GR CU P2 hR (fun b o s e => by cases e; exact hgw) (by omega) hp0
      have hcP2 : (w7.setCell ⟨g, 0, none⟩ (.int .i64 x)).cell? ⟨P, 0, none⟩ = some (.slice (some ⟨g, 0, none⟩) 16 cO) := P3.cell 0
      have hc2 : (w7.setCell ⟨g, 0, none⟩ (.int .i64 x)).cell? ⟨w.heap.size, 0, none⟩ = some (.slice none 0 0) := P2.cell 0
      have hf2 := P2.frozen 0
      have HF : Hid _ := FF
      clear FF BB Bd B7 hR gs P2 P3 GR CU
      go_wp2
      exact bodyPost_ret (results_cell_row rfl _ _ w.heap.size 37 #[.slice (some ⟨g, 0, none⟩) 16 cO] (0, 0) _ rfl HF.out.2 Tryd.underlying37 rfl infoSc) rfl ⟨_, _, rfl, HF.out.1⟩
    by_cases e1 : k = 1
    · subst e1
      clear hcP hcg hcg15 hfg hfP
      go_wp2_with fail
      refine (specOrder _).mono ?_
      rintro e w6 ⟨rfl, hb6⟩
      replace BB := BB.calm hb6
      clear hb6
      go_wp2_with fail
      refine (specScOut OL _ OL_len OL_lm).mono ?_
      rintro e w7 ⟨aN, cN, rfl, ho, hb7⟩
      have hs6 := BB.p3.lt
      replace BB := BB.calm hb7
      obtain ⟨gN, CN, hv, hgN, hrow⟩ := own_row ho OL_lm
      injection hv with f1 _ f2
      subst f1 f2
      have hfP := BB.p3.frozen 0
      have hcP : w7.cell? ⟨P, 0, none⟩ = some (.slice (some ⟨g, 0, none⟩) 16 cO) := BB.p3.cell 0
      have gs := cur_grown2 w7 P (.slice (some ⟨gN, 0, none⟩) 16 cN) 0
      have hR := is_far hrow.is P 0 (.slice (some ⟨gN, 0, none⟩) 16 cN) (fun b o s e => by cases e; omega)
      have P2 := BB.p2.other ⟨P, 0, none⟩ (.slice (some ⟨gN, 0, none⟩) 16 cN) (by show w.heap.size ≠ P; omega)
      have P3 := BB.p3.set 0 (.slice (some ⟨gN, 0, none⟩) 16 cN)
      have GR := grown_into BB.gr gs (by intro k hk; cases hk; exact .inl (by omega))
      have CU := cur_keep BB.cur gs (fun e => by have := Option.some.inj e; have := BB.hp; omega)
      have hgw2 : w.heap.size < gN := by omega
      have FF := bent_finO GR CU P2 hR (fun b o s e => by cases e; exact hgw2) (by omega) hp0
      have hcP2 : (w7.setCell ⟨P, 0, none⟩ (.slice (some ⟨gN, 0, none⟩) 16 cN)).cell? ⟨P, 0, none⟩ = some (.slice (some ⟨gN, 0, none⟩) 16 cN) := P3.cell 0
      have hc2 : (w7.setCell ⟨P, 0, none⟩ (.slice (some ⟨gN, 0, none⟩) 16 cN)).cell? ⟨w.heap.size, 0, none⟩ = some (.slice none 0 0) := P2.cell 0
      have hf2 := P2.frozen 0
      have HF : Hid _ := FF
      clear FF BB hR gs P2 P3 GR CU ho hb7 hrow hgN
      go_wp2
      exact bodyPost_ret (results_cell_row rfl _ _ w.heap.size 37 #[.slice (some ⟨gN, 0, none⟩) 16 cN] (0, 0) _ rfl HF.out.2 Tryd.underlying37 rfl infoSc) rfl ⟨_, _, rfl, HF.out.1⟩
    · obtain rfl : k = 2 := by omega
      have gs := cur_grown2 w5 P (.slice (some ⟨g, 1, none⟩) 15 (cO - 1)) 0
      have hR := is_far BB.row.rest P 0 (.slice (some ⟨g, 1, none⟩) 15 (cO - 1)) (fun b o s e => by cases e; exact hne)
      have P2 := BB.p2.other ⟨P, 0, none⟩ (.slice (some ⟨g, 1, none⟩) 15 (cO - 1)) (by show w.heap.size ≠ P; omega)
      have P3 := BB.p3.set 0 (.slice (some ⟨g, 1, none⟩) 15 (cO - 1))
      have GR := grown_into BB.gr gs (by intro k hk; cases hk; exact .inl (by omega))
      have CU := cur_keep BB.cur gs (fun e => by have := Option.some.inj e; have := BB.hp; omega)
      have FF := bent_finO GR CU P2 hR (fun b o s e => by cases e; exact hgw) (by omega) hp0
      have hcP2 : (w5.setCell ⟨P, 0, none⟩ (.slice (some ⟨g, 1, none⟩) 15 (cO - 1))).cell? ⟨P, 0, none⟩ = some (.slice (some ⟨g, 1, none⟩) 15 (cO - 1)) := P3.cell 0
      have hc2 : (w5.setCell ⟨P, 0, none⟩ (.slice (some ⟨g, 1, none⟩) 15 (cO - 1))).cell? ⟨w.heap.size, 0, none⟩ = some (.slice none 0 0) := P2.cell 0
      have hf2 := P2.frozen 0
      have HF : Hid _ := FF
      clear FF BB hR gs P2 P3 GR CU
      go_wp2
      exact bodyPost_ret (results_cell_row rfl _ _ w.heap.size 37 #[.slice (some ⟨g, 1, none⟩) 15 (cO - 1)] (0, 0) _ rfl HF.out.2 Tryd.underlying37 rfl infoSc) rfl ⟨_, _, rfl, HF.out.1⟩
end Go.Proofs.YtoblilngppjmhaaDoor
namespace Go.Proofs.YtoblilngppjmhaaDoor
open Go.RowKit
set_option maxRecDepth 100000

set_option maxHeartbeats 2000000 in
theorem drawPtMul (a : Option Addr) (n c : Nat) (xs : List Int) (w : World) (h : Bs w a n c xs) (hm : n ≤ 9223372036854775807) :
    Calls Tryd.prog 22 #[.slice a n c] w fun e w' => ∃ v l1 l2 u m, e = .returned (.tuple #[v, u]) ∧ PtV w w' v l1 l2 ∧ FeV w w' u m ∧ Below w.heap.size w w' := by
  obtain ⟨W, hW⟩ : ∃ W, W = (w.alloc (.cells #[.slice none 0 0, .slice none 0 0] 27)).alloc (.cells #[.slice none 0 0] 37) := ⟨_, rfl⟩
  have z0 : Arr W w.heap.size 27 [.slice none 0 0, .slice none 0 0] := by rw [hW]; exact (Arr.new w [.slice none 0 0, .slice none 0 0] _).alloc _
  have y0 : Arr W (w.heap.size + 1) 37 [.slice none 0 0] := by
    rw [hW]
    have := Arr.new (w.alloc (.cells #[.slice none 0 0, .slice none 0 0] 27)) [.slice none 0 0] 37
    rw [World.size_alloc] at this
    exact this
  have gB : Below w.heap.size w W := by rw [hW]; exact ((Below.refl _ _).alloc (Nat.le_refl _) _).alloc (by simp) _
  go_enter Tryd.func22, Tryd.ntmps22
  go_wp2_with fail
  rw [← hW]
  clear hW
  refine (curNew a n c xs _ (h.below gB) hm).mono ?_
  rintro e w1 ⟨rfl, c1, d1, hs1, hb1⟩
  have l0 := y0.lt
  have z1 := z0.kept hb1
  have y1 := y0.kept hb1
  have gB1 := gB.trans (hb1.mono gB.size)
  clear z0 y0
  go_wp2_with fail
  refine (curBent6 W.heap.size a n c xs _ c1 d1).mono ?_
  rintro e w2 ⟨v, l1, l2, rfl, ⟨a1, n1, e1, a2, n2, e2, rfl, i1, i2, f1, f2, b1, b2⟩, c2, g2⟩
  have d2 := d1.grown g2
  have z2 := arr_cur z1 g2 (by omega)
  have y2 := arr_cur y1 g2 (by omega)
  have gB2 : Below w.heap.size w w2 := gB1.grown g2 (by omega) (fun k hk => by have := Option.some.inj hk; omega)
  go_wp2_with fail
  refine (curBent5 W.heap.size a n c xs _ c2 d2).mono ?_
  rintro e w3 ⟨u, m, rfl, ⟨a3, n3, e3, rfl, i3, f3, b3⟩, c3, g3⟩
  have z3 := arr_cur z2 g3 (by omega)
  have y3 := arr_cur y2 g3 (by omega)
  have gB3 : Below w.heap.size w w3 := gB2.grown g3 gB2.size (fun k hk => by have := Option.some.inj hk; omega)
  replace i1 := is_cur i1 g3 f1 (by omega)
  replace i2 := is_cur i2 g3 f2 (by omega)
  have hz := g2.size
  have q1 := row_grown w3 w.heap.size #[.slice a1 n1 e1, .slice a2 n2 e2]
  have Z4 := z3.row [.slice a1 n1 e1, .slice a2 n2 e2]
  have Y4 := arr_grown y3 q1 (by omega)
  have B4 := setRow_below gB3 w.heap.size #[.slice a1 n1 e1, .slice a2 n2 e2] (Nat.le_refl _)
  have I1 := is_cur i1 q1 f1 (by omega)
  have I2 := is_cur i2 q1 f2 (by omega)
  have I3 := is_cur i3 q1 f3 (by omega)
  obtain ⟨w4, hw4⟩ : ∃ w4, w4 = w3.setRow w.heap.size #[.slice a1 n1 e1, .slice a2 n2 e2] := ⟨_, rfl⟩
  have hw5 : w4 = w3.setRow w.heap.size ([Value.slice a1 n1 e1, Value.slice a2 n2 e2]).toArray := hw4
  rw [← hw4] at B4 I1 I2 I3 q1 Y4
  rw [← hw5] at Z4
  have q2 := cur_grown2 w4 (w.heap.size + 1) (.slice a3 n3 e3) 0
  have hc0 : w4.cell? ⟨w.heap.size + 1, 0, none⟩ = some (.slice none 0 0) := Y4.cell 0
  have hf0 := Y4.frozen 0
  have HZ : Hid _ := arr_grown Z4 q2 (by omega)
  have HY : Hid _ := Y4.set 0 (.slice a3 n3 e3)
  have HB : Hid _ := B4.setCell (p := ⟨w.heap.size + 1, 0, none⟩) (by show w.heap.size ≤ w.heap.size + 1; omega) (.slice a3 n3 e3)
  have HI : Hid (PtV w (w4.setCell ⟨w.heap.size + 1, 0, none⟩ (.slice a3 n3 e3)) (.agg #[.slice a1 n1 e1, .slice a2 n2 e2]) l1 l2) :=
    ⟨a1, n1, e1, a2, n2, e2, rfl, is_cur I1 q2 f1 (by omega), is_cur I2 q2 f2 (by omega), fun k o s e => by have := f1 k o s e; omega, fun k o s e => by have := f2 k o s e; omega, b1, b2⟩
  have HJ : Hid (FeV w (w4.setCell ⟨w.heap.size + 1, 0, none⟩ (.slice a3 n3 e3)) (.agg #[.slice a3 n3 e3]) m) :=
    ⟨a3, n3, e3, rfl, is_cur I3 q2 f3 (by omega), fun k o s e => by have := f3 k o s e; omega, b3⟩
  clear z1 z2 y1 y2 gB gB1 gB2 gB3 c1 d1 c2 d2 g2 c3 g3 i1 i2 i3 f1 f2 f3 hb1 h Z4 B4 I1 I2 I3 q1 q2 y3 Y4
  go_wp2_with (first
    | (refine wpList_store_row rfl 27 _ _ rfl w.heap.size ([Value.slice a1 n1 e1, Value.slice a2 n2 e2]).toArray rfl rfl 27 _ z3 infoPt rfl (by simp [Value.oneCell']) ?_; rw [← hw5]; clear z3 hw5 hw4))
  exact bodyPost_ret (results_two' (cs := [.slice a1 n1 e1, .slice a2 n2 e2]) (ds := [.slice a3 n3 e3]) rfl rfl rfl HZ.out HY.out Tryd.underlying27 rfl Tryd.underlying37 rfl infoPt infoSc) rfl ⟨_, l1, l2, _, m, rfl, HI.out, HJ.out, HB.out⟩
end Go.Proofs.YtoblilngppjmhaaDoor

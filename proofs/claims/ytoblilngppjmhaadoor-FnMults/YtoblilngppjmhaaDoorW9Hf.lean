/-
  What is proved here: the contract of the specification's l4draw: a number of the field, drawn out of a code; the contract of the specification's l4bent: a number of the field, drawn out of a code and now and then bent.
-/
import Derived.Test.YtoblilngppjmhaaDoorW9Pn
import Derived.Test.YtoblilngppjmhaaDoorW9Dr
import Derived.Test.YtoblilngppjmhaaDoorW9Fu
import Derived.Test.YtoblilngppjmhaaDoorW9Fs
namespace Go.Proofs.YtoblilngppjmhaaDoor
open Go.RowKit
set_option maxRecDepth 100000

theorem red_ok (v : Int) : feOk (red v) = true := (feOk_iff _).2 ⟨red_len v, red_lm v, by rw [val_red]; exact (red_lt v).2⟩
theorem lim_ok {x : Int} (h0 : 0 ≤ x) (h1 : x < P25519) : feOk (lim 16 x) = true :=
  (feOk_iff _).2 ⟨lim_len _ _, lim_lm _ _, by rw [val_lim, p256]; unfold P25519 at *; omega⟩
theorem tk_ok {x : Int} (h0 : 0 < x) (h1 : x < P25519) : feOk (tk16 PL (lim 16 x)) = true := by
  rw [tk16_lim PL_len (lim_len _ _), PL_val, val_lim, p256]
  refine lim_ok ?_ ?_ <;> (unfold P25519 at *; omega)
theorem set15_gp {l : List Int} (h : Lm l) (x : Int) (hx : 0 ≤ x ∧ x < 65536) : Gp (l.set 15 x) := by
  intro y hy
  rcases List.mem_or_eq_of_mem_set hy with h1 | rfl
  · have := h y h1; omega
  · omega

set_option maxHeartbeats 2000000 in
theorem curDraw4 (p : Nat) (a : Option Addr) (n c : Nat) (xs : List Int) (w : World) (hcur : Cur w p a n c) (hcode : Coded w p a n c xs) :
    Calls Tryd.prog 135 #[.pointer (some ⟨p, 0, none⟩)] w fun e w' => ∃ l, e = .returned (.agg (I64 l).toArray) ∧ feOk l = true ∧ Cur w' p a n c ∧ w.grownBy w' (some p) := by
  have hp0 := cur_lt hcur
  obtain ⟨W, hW⟩ : ∃ W, W = w.alloc (.cells #[.int .i64 0, .int .i64 0, .int .i64 0, .int .i64 0, .int .i64 0, .int .i64 0, .int .i64 0, .int .i64 0, .int .i64 0, .int .i64 0, .int .i64 0, .int .i64 0, .int .i64 0, .int .i64 0, .int .i64 0, .int .i64 0] 82) := ⟨_, rfl⟩
  have DD : Dq w W p a n c xs := by
    rw [hW]
    exact ⟨grown_alloc _ _ _, cur_keep hcur (grown_alloc _ _ none) (by simp), hcode, Arr.new w (I64 Z16) _, hp0⟩
  have FIN : Hid (∀ (V : World) (l : List Int), Dq w V p a n c xs → l.length = 16 → Cur (V.setRow w.heap.size (I64 l).toArray) p a n c ∧ w.grownBy (V.setRow w.heap.size (I64 l).toArray) (some p)) := by
    unfold Hid
    intro V l D _
    have hb := setRow_below (B := w.heap.size) (w := V) (w' := V) (Below.refl _ _) w.heap.size (I64 l).toArray (Nat.le_refl _)
    have hg : V.grownBy (V.setRow w.heap.size (I64 l).toArray) (some w.heap.size) := ⟨hb.os, hb.tape, hb.output, hb.size, fun k hk hne => setRow_other V w.heap.size k _ (fun e => hne (by rw [e]))⟩
    refine ⟨cur_keep D.cur hg (by intro e; have := Option.some.inj e; omega), ?_⟩
    exact grown_into D.gr hg (by intro k hk; cases hk; exact .inl (Nat.le_refl _))
  go_enter Tryd.func135, Tryd.ntmps135
  go_wp2_with fail
  rw [← hW]
  clear hW hcur hcode
  refine (curOnce p a n c xs 3 _ DD.cur DD.cod (by omega)).mono ?_
  rintro e w1 ⟨x1, rfl, hc1, hg1⟩
  replace DD := DD.draw hc1 hg1
  clear hc1 hg1
  cases x1 with
  | true =>
    have hcl := cells_arr w1 [0, 1, 2, 19, 65535, 1099511627776] 3
    have hpw := cur_lt DD.cur
    replace DD := DD.alloc (.cells ([0, 1, 2, 19, 65535, 1099511627776].map (Value.int .i64)).toArray 3)
    go_wp2_with fail
    refine (curPick p a n c xs w1.heap.size 6 [0, 1, 2, 19, 65535, 1099511627776] _ DD.cur DD.cod rfl (by omega) (by omega) (by omega) hcl).mono ?_
    rintro e w2 ⟨x, rfl, hx, hc2, hg2⟩
    replace DD := DD.draw hc2 hg2
    have hxb : 0 ≤ x ∧ x < 9223372036854775808 := by simp at hx; omega
    clear hc2 hg2 hcl hpw hx
    go_wp2_with fail
    refine (specSmall x _ hxb.1 hxb.2).mono ?_
    rintro e w3 ⟨rfl, hb3⟩
    replace DD := DD.calm hb3
    clear hb3
    have hok := lim_ok (x := x) hxb.1 (by unfold P25519; omega)
    obtain ⟨R, hR⟩ : ∃ R, R = lim 16 x := ⟨_, rfl⟩
    rw [← hR] at hok ⊢
    clear hR
    have hRl := ((feOk_iff R).1 hok).1
    have hpz := DD.pz
    have hp2 := hpz.row (I64 R)
    have HF : Hid _ := FIN.out _ R DD hRl
    clear DD FIN
    go_wp2_with (refine wpList_store_row rfl 82 _ _ rfl w.heap.size (I64 R).toArray rfl rfl 82 _ hpz (by simpa [hRl] using infoE) (by simp [hRl]) (by simp [Value.oneCell']) ?_)
    exact bodyPost_ret (results_cell_row rfl _ _ w.heap.size 82 (I64 R).toArray (0, 0) _ rfl hp2 Tryd.underlying82 rfl (by simpa [hRl] using infoE)) rfl ⟨R, rfl, hok, HF.out.1, HF.out.2⟩
  | false =>
    go_wp2_with fail
    refine (curOnce p a n c xs 3 _ DD.cur DD.cod (by omega)).mono ?_
    rintro e w2 ⟨x2, rfl, hc2, hg2⟩
    replace DD := DD.draw hc2 hg2
    clear hc2 hg2
    cases x2 with
    | true =>
      go_wp2_with fail
      refine (specPrime _).mono ?_
      rintro e w3 ⟨rfl, hb3⟩
      replace DD := DD.calm hb3
      clear hb3
      go_wp2_with fail
      refine (curBelow p a n c xs 30 _ DD.cur DD.cod (by omega)).mono ?_
      rintro e w4 ⟨j, rfl, hj0, hj1, _, hc4, hg4⟩
      replace hj1 := hj1 (by omega)
      replace DD := DD.draw hc4 hg4
      clear hc4 hg4
      have hw : IntKind.i64.wrap (1 + j) = 1 + j := by rw [IntKind.wrap_i64]; omega
      go_wp2_with fail
      refine (specSmall (1 + j) _ (by omega) (by omega)).mono ?_
      rintro e w5 ⟨rfl, hb5⟩
      replace DD := DD.calm hb5
      clear hb5
      go_wp2_with fail
      refine (specTake PL (lim 16 (1 + j)) _ PL_len (lim_len _ _) PL_lm (lim_lm _ _)).mono ?_
      rintro e w6 ⟨rfl, hb6⟩
      replace DD := DD.calm hb6
      clear hb6
      have hok := tk_ok (x := 1 + j) (by omega) (by unfold P25519; omega)
      obtain ⟨R, hR⟩ : ∃ R, R = tk16 PL (lim 16 (1 + j)) := ⟨_, rfl⟩
      rw [← hR] at hok ⊢
      clear hR
      have hRl := ((feOk_iff R).1 hok).1
      have hpz := DD.pz
      have hp2 := hpz.row (I64 R)
      have HF : Hid _ := FIN.out _ R DD hRl
      clear DD FIN
      go_wp2_with (refine wpList_store_row rfl 82 _ _ rfl w.heap.size (I64 R).toArray rfl rfl 82 _ hpz (by simpa [hRl] using infoE) (by simp [hRl]) (by simp [Value.oneCell']) ?_)
      exact bodyPost_ret (results_cell_row rfl _ _ w.heap.size 82 (I64 R).toArray (0, 0) _ rfl hp2 Tryd.underlying82 rfl (by simpa [hRl] using infoE)) rfl ⟨R, rfl, hok, HF.out.1, HF.out.2⟩
    | false =>
      obtain ⟨V, hV⟩ : ∃ V, V = w2.alloc (.cells #[.int .i64 0, .int .i64 0, .int .i64 0, .int .i64 0, .int .i64 0, .int .i64 0, .int .i64 0, .int .i64 0, .int .i64 0, .int .i64 0, .int .i64 0, .int .i64 0, .int .i64 0, .int .i64 0, .int .i64 0, .int .i64 0] 82) := ⟨_, rfl⟩
      have hE0 := DD.pz.lt
      have DV : Dq w V p a n c xs := by rw [hV]; exact DD.alloc _
      have gE : Arr V w2.heap.size 82 (I64 ([] ++ Z16.drop 0)) := by rw [hV]; exact Arr.new w2 (I64 Z16) _
      obtain ⟨E, hE⟩ : ∃ E, E = w2.heap.size := ⟨_, rfl⟩
      clear DD
      go_wp2
      rw [← hE] at gE hE0 ⊢
      go_loopw [4] (fun i wr => ∃ (k : Nat) (l : List Int), k ≤ 16 ∧ i = .int .i64 k ∧ l.length = k ∧ Lm l ∧ Arr wr E 82 (I64 (l ++ Z16.drop k)) ∧ Dq w wr p a n c xs) (fun i _ => 16 - (intOf i).toNat)
      case atStart => exact ⟨0, [], by omega, rfl, rfl, by intro x hx; simp at hx, hV ▸ gE, hV ▸ DV⟩
      case round =>
        clear gE DV hV hE
        obtain ⟨k, l, hk, rfl, hl, hm, gE, DD⟩ := hrel
        have hEp : E ≠ p := by have := DD.hp; omega
        by_cases hlt : k < 16
        · have hk16 : (k : Int) < 16 := by omega
          have hk0 : (0 : Int) ≤ (k : Int) := by omega
          go_wp2_with fail
          refine (curBelow p a n c xs 65536 _ DD.cur DD.cod (by omega)).mono ?_
          rintro e w3 ⟨x, rfl, hx0, hx1, _, hc3, hg3⟩
          replace hx1 := hx1 (by omega)
          replace DD := DD.draw hc3 hg3
          replace gE := arr_cur gE hg3 hEp
          obtain ⟨u, hu⟩ : ∃ u, w3.cell? ⟨E, k, none⟩ = some u := by
            rw [gE.cell k]
            exact ⟨_, List.getElem?_eq_getElem (by simp [hl]; omega)⟩
          have hfz := gE.frozen k
          have g1 := gE.set k (.int .i64 x)
          rw [set_app hl (show k < Z16.length from hlt)] at g1
          have hgE : w3.grownBy (w3.setCell ⟨E, k, none⟩ (.int .i64 x)) (some E) := cur_grown2 w3 E _ k
          have D1 : Dq w (w3.setCell ⟨E, k, none⟩ (.int .i64 x)) p a n c xs := ⟨grown_into DD.gr hgE (by intro j hj; cases hj; exact .inl (by omega)), cur_keep DD.cur hgE (by intro e; exact hEp (Option.some.inj e)), DD.cod0, DD.pz.other ⟨E, k, none⟩ _ (by show w.heap.size ≠ E; omega), DD.hp⟩
          have H1 : Hid _ := g1
          have HD : Hid _ := D1
          clear g1 D1 gE DD hc3 hg3 hgE
          go_wp2
          go_roundw
          case rel => exact ⟨k + 1, l ++ [x], by omega, by go_num, by simp [hl], by intro y hy; rcases List.mem_append.1 hy with h | h; exact hm y h; simp at h; omega, H1.out, HD.out⟩
          case measure => simp [intOf]; omega
        · obtain rfl : k = 16 := by omega
          rw [show Z16.drop 16 = [] from rfl, List.append_nil] at gE
          obtain ⟨y, hy⟩ : ∃ y, y = l.getD 15 0 := ⟨_, rfl⟩
          have hc15 := gE.i64 15 (by omega)
          rw [← hy] at hc15
          have hyb := gD_lm hm 15
          rw [← hy] at hyb
          have hf15 := gE.frozen 15
          have hand : bits .and .i64 y 32767 = y % 32768 := i64_low15 (by omega) (by omega)
          have g1 := gE.set 15 (.int .i64 (y % 32768))
          rw [show (I64 l).set 15 (.int .i64 (y % 32768)) = I64 (l.set 15 (y % 32768)) from List.map_set.symm] at g1
          have hgp := set15_gp hm (y % 32768) (by omega)
          have hsl : (l.set 15 (y % 32768)).length = 16 := by simp [hl]
          have hgE : wr.grownBy (wr.setCell ⟨E, 15, none⟩ (.int .i64 (y % 32768))) (some E) := cur_grown2 wr E _ 15
          replace DD : Dq w (wr.setCell ⟨E, 15, none⟩ (.int .i64 (y % 32768))) p a n c xs := ⟨grown_into DD.gr hgE (by intro j hj; cases hj; exact .inl (by omega)), cur_keep DD.cur hgE (by intro e; exact hEp (Option.some.inj e)), DD.cod0, DD.pz.other ⟨E, 15, none⟩ _ (by show w.heap.size ≠ E; omega), DD.hp⟩
          obtain ⟨es, hes⟩ : ∃ es, es = l.set 15 (y % 32768) := ⟨_, rfl⟩
          rw [← hes] at g1 hgp hsl
          clear hes hgE gE hy
          go_wp2_with (refine wpList_load_row rfl 82 _ rfl E rfl 82 (I64 es).toArray (0, 0) _ g1 Tryd.underlying82 rfl (by simpa [hsl] using infoE) ?_)
          refine (specCarry es _ hsl hgp).mono ?_
          rintro e w4 ⟨rfl, hb4⟩
          replace DD := DD.calm hb4
          clear hb4 g1 hc15 hf15
          have hok := red_ok (val es)
          obtain ⟨R, hR⟩ : ∃ R, R = red (val es) := ⟨_, rfl⟩
          rw [← hR] at hok ⊢
          clear hR
          have hRl := ((feOk_iff R).1 hok).1
          have hpz := DD.pz
          have hp2 := hpz.row (I64 R)
          have HF : Hid _ := FIN.out _ R DD hRl
          clear DD FIN
          go_wp2_with (refine wpList_store_row rfl 82 _ _ rfl w.heap.size (I64 R).toArray rfl rfl 82 _ hpz (by simpa [hRl] using infoE) (by simp [hRl]) (by simp [Value.oneCell']) ?_)
          exact bodyPost_ret (results_cell_row rfl _ _ w.heap.size 82 (I64 R).toArray (0, 0) _ rfl hp2 Tryd.underlying82 rfl (by simpa [hRl] using infoE)) rfl ⟨R, rfl, hok, HF.out.1, HF.out.2⟩
end Go.Proofs.YtoblilngppjmhaaDoor
namespace Go.Proofs.YtoblilngppjmhaaDoor
open Go.RowKit
set_option maxRecDepth 100000

/-- Where a number stands while it is bent. -/
structure Bz (w X : World) (p P g C : Nat) (a : Option Addr) (n c : Nat) (xs l : List Int) : Prop where
  gr : w.grownBy X (some p)
  cur : Cur X p a n c
  cod0 : Coded w p a n c xs
  p2 : Arr X w.heap.size 25 [.slice none 0 0]
  p3 : Arr X P 25 [.slice (some ⟨g, 0, none⟩) 16 C]
  row : Rg4 X g C l
  hp : p < w.heap.size
  hg : w.heap.size < g
  hP : w.heap.size < P
  ne : g ≠ P
section
variable {w X Y : World} {p P g C : Nat} {a : Option Addr} {n c : Nat} {xs l : List Int}
theorem Bz.cod (h : Bz w X p P g C a n c xs l) : Coded X p a n c xs := h.cod0.grown h.gr
theorem Bz.draw (h : Bz w X p P g C a n c xs l) (hc : Cur Y p a n c) (hg : X.grownBy Y (some p)) : Bz w Y p P g C a n c xs l :=
  have h1 := h.hp
  have h2 := h.hg
  have h3 := h.hP
  ⟨grown_tr h.gr hg, hc, h.cod0, arr_cur h.p2 hg (by omega), arr_cur h.p3 hg (by omega), h.row.block (hg.block g h.row.lt (fun e => by have := Option.some.inj e; omega)) hg.size, h.hp, h.hg, h.hP, h.ne⟩
theorem Bz.calm (h : Bz w X p P g C a n c xs l) (hb : Below X.heap.size X Y) : Bz w Y p P g C a n c xs l :=
  ⟨grown_tr h.gr (below_grown hb _), cur_keep h.cur (below_grown hb none) (by simp), h.cod0, h.p2.kept hb, h.p3.kept hb, h.row.block (hb.block g h.row.lt) hb.size, h.hp, h.hg, h.hP, h.ne⟩
end
/-- The last store. -/
theorem bent_fin {w V : World} {p : Nat} {a a' : Option Addr} {n c n' c' : Nat} {l' : List Int} (gr : w.grownBy V (some p)) (cur : Cur V p a n c) (p2 : Arr V w.heap.size 25 [.slice none 0 0]) (is : Is V a' n' c' l') (off : ∀ b o s, a' = some ⟨b, o, s⟩ → w.heap.size < b) (hn : n' ≤ 16) (hp : p < w.heap.size) :
    (FeV w (V.setCell ⟨w.heap.size, 0, none⟩ (.slice a' n' c')) (.agg #[.slice a' n' c']) l' ∧ Cur (V.setCell ⟨w.heap.size, 0, none⟩ (.slice a' n' c')) p a n c ∧ w.grownBy (V.setCell ⟨w.heap.size, 0, none⟩ (.slice a' n' c')) (some p)) ∧ Arr (V.setCell ⟨w.heap.size, 0, none⟩ (.slice a' n' c')) w.heap.size 25 [.slice a' n' c'] := by
  have gs := cur_grown2 V w.heap.size (.slice a' n' c') 0
  refine ⟨⟨⟨a', n', c', rfl, is_far is w.heap.size 0 _ (fun b o s e => by have := off b o s e; omega), off, hn⟩, cur_keep cur gs (fun e => by have := Option.some.inj e; omega), grown_into gr gs (by intro k hk; cases hk; exact .inl (Nat.le_refl _))⟩, p2.set 0 _⟩

set_option maxHeartbeats 4000000 in
theorem curBent4 (p : Nat) (a : Option Addr) (n c : Nat) (xs : List Int) (w : World) (hcur : Cur w p a n c) (hcode : Coded w p a n c xs) :
    Calls Tryd.prog 100 #[.pointer (some ⟨p, 0, none⟩)] w fun e w' => ∃ v l, e = .returned v ∧ FeV w w' v l ∧ Cur w' p a n c ∧ w.grownBy w' (some p) := by
  have hp0 := cur_lt hcur
  obtain ⟨W, hW⟩ : ∃ W, W = w.alloc (.cells #[.slice none 0 0] 25) := ⟨_, rfl⟩
  have g0 : w.grownBy W (some p) := by rw [hW]; exact grown_alloc _ _ _
  have c0 : Cur W p a n c := by rw [hW]; exact cur_keep hcur (grown_alloc _ _ none) (by simp)
  have z0 : Arr W w.heap.size 25 [.slice none 0 0] := by rw [hW]; exact Arr.new _ _ _
  go_enter Tryd.func100, Tryd.ntmps100
  go_wp2_with fail
  rw [← hW]
  clear hW
  refine (curDraw4 p a n c xs _ c0 (hcode.grown g0)).mono ?_
  rintro e w1 ⟨l, rfl, hok, c1, g1⟩
  obtain ⟨hll, hlm, _⟩ := (feOk_iff l).1 hok
  have G1 := grown_tr g0 g1
  have z1 := arr_cur z0 g1 (by omega)
  clear g0 c0 z0 g1
  go_wp2_with fail
  refine (specOut l _ hll hlm).mono ?_
  rintro e w2 ⟨aO, cO, rfl, ho, hb2⟩
  have hz := z1.lt
  obtain ⟨g, C, hv, hgB, hrow⟩ := own_row ho hlm
  injection hv with e1 _ e2
  subst e1 e2
  have BB : Bz w (w2.alloc (.cells #[.slice (some ⟨g, 0, none⟩) 16 cO] 25)) p w2.heap.size g cO a n c xs l :=
    ⟨grown_tr (grown_tr G1 (below_grown hb2 _)) (grown_alloc _ _ _), cur_keep (cur_keep c1 (below_grown hb2 none) (by simp)) (grown_alloc _ _ none) (by simp), hcode, (z1.kept hb2).alloc _, Arr.new _ _ _, hrow.block (heap_alloc_old _ _ hrow.lt) (by simp), hp0, by omega, (z1.kept hb2).lt, by have := hrow.lt; omega⟩
  clear ho hb2 hrow hgB z1 G1 c1 hcur hz
  obtain ⟨P, hPe⟩ : ∃ P, P = w2.heap.size := ⟨_, rfl⟩
  obtain ⟨X, hX⟩ : ∃ X, X = w2.alloc (.cells #[.slice (some ⟨g, 0, none⟩) 16 cO] 25) := ⟨_, rfl⟩
  rw [← hX, ← hPe] at BB
  go_wp2_with fail
  rw [← hX, ← hPe]
  clear hX hPe
  refine (curOnce p a n c xs 12 _ BB.cur BB.cod (by omega)).mono ?_
  rintro e w3 ⟨x3, rfl, c3, g3⟩
  replace BB := BB.draw c3 g3
  clear c3 g3
  have hgw := BB.hg
  have hPw := BB.hP
  have hne := BB.ne
  have hneP : ¬ P = w.heap.size := by omega
  cases x3 with
  | false =>
    have FF := bent_fin BB.gr BB.cur BB.p2 BB.row.is (fun b o s e => by cases e; exact BB.hg) (by omega) hp0
    have hcP : (w3).cell? ⟨P, 0, none⟩ = some (.slice (some ⟨g, 0, none⟩) 16 cO) := BB.p3.cell 0
    have hc2 : (w3).cell? ⟨w.heap.size, 0, none⟩ = some (.slice none 0 0) := BB.p2.cell 0
    have hf2 := BB.p2.frozen 0
    have HF : Hid _ := FF
    clear FF BB
    go_wp2
    exact bodyPost_ret (results_cell_row rfl _ _ w.heap.size 25 #[.slice (some ⟨g, 0, none⟩) 16 cO] (0, 0) _ rfl HF.out.2 Tryd.underlying25 rfl infoFe) rfl ⟨_, _, rfl, HF.out.1⟩
  | true =>
    go_wp2_with fail
    refine (curBelow p a n c xs 4 _ BB.cur BB.cod (by omega)).mono ?_
    rintro e w5 ⟨k, rfl, hk0, hk1, _, c5, g5⟩
    replace hk1 := hk1 (by omega)
    replace BB := BB.draw c5 g5
    clear c5 g5
    have hcg := BB.row.cell 0 (by omega)
    have hcg15 := BB.row.cell 15 (by omega)
    have hfg := BB.row.fz
    have hcP : w5.cell? ⟨P, 0, none⟩ = some (.slice (some ⟨g, 0, none⟩) 16 cO) := BB.p3.cell 0
    have hfP := BB.p3.frozen 0
    have hcap := BB.row.is.2.2.1
    by_cases e0 : k = 0
    · subst e0
      have hsw := BB.p3.lt
      have hpw := cur_lt BB.cur
      have Bd := BB.calm (Below.refl _ _).drew
      go_wp2
      go_region_held3 (fun W => W.cell? ⟨P, 0, none⟩ = some (.slice (some ⟨g, 0, none⟩) 16 cO)) (first | exact Bd.p3.cell 0 | exact (BB.calm ((Below.refl _ _).alloc (Nat.le_refl _) _).drew).p3.cell 0 | exact B7.p3.cell 0 | exact (B7.p3.other ⟨g, 0, none⟩ _ (by show P ≠ g; omega)).cell 0)
        (first
          | (go_at_call 116
             have B6 := BB.calm ((Below.refl _ w5).alloc (Nat.le_refl _) (.cells (([-1, 65536, 5] : List Int).map (Value.int .i64)).toArray 3)).drew
             have hcell := cells_arr w5 [-1, 65536, 5] 3
             refine (curPick p a n c xs w5.heap.size 3 [-1, 65536, 5] _ B6.cur B6.cod rfl (by omega) (by omega) (by omega) (fun j hj => hcell j hj)).mono ?_
             rintro e w7 ⟨x, rfl, hx, c7, g7⟩
             have B7 := B6.draw c7 g7
             have hxi : -9223372036854775808 ≤ x ∧ x ≤ 9223372036854775807 := by
               simp only [List.mem_cons, List.not_mem_nil, or_false] at hx
               omega
             have hc7 := B7.row.cell 0 (by omega)
             have hf7 := B7.row.fz
             clear hcell B6 c7 g7 hx))
      have hR := B7.row.put 0 (by omega) x hxi
      have gs := cur_grown2 w7 g (.int .i64 x) 0
      have P2 := B7.p2.other ⟨g, 0, none⟩ (.int .i64 x) (by show w.heap.size ≠ g; omega)
      have P3 := B7.p3.other ⟨g, 0, none⟩ (.int .i64 x) (by show P ≠ g; omega)
      have GR := grown_into B7.gr gs (by intro k hk; cases hk; exact .inl (by omega))
      have CU := cur_keep B7.cur gs (fun e => by have := Option.some.inj e; have := B7.hp; omega)
      have FF := bent_fin GR CU P2 hR (fun b o s e => by cases e; exact hgw) (by omega) hp0
      have hcP2 : (w7.setCell ⟨g, 0, none⟩ (.int .i64 x)).cell? ⟨P, 0, none⟩ = some (.slice (some ⟨g, 0, none⟩) 16 cO) := P3.cell 0
      have hc2 : (w7.setCell ⟨g, 0, none⟩ (.int .i64 x)).cell? ⟨w.heap.size, 0, none⟩ = some (.slice none 0 0) := P2.cell 0
      have hf2 := P2.frozen 0
      have HF : Hid _ := FF
      clear FF BB Bd B7 hR gs P2 P3 GR CU
      go_wp2
      exact bodyPost_ret (results_cell_row rfl _ _ w.heap.size 25 #[.slice (some ⟨g, 0, none⟩) 16 cO] (0, 0) _ rfl HF.out.2 Tryd.underlying25 rfl infoFe) rfl ⟨_, _, rfl, HF.out.1⟩
    by_cases e1 : k = 1
    · subst e1
      clear hcP hcg hcg15 hfg hfP
      go_wp2_with fail
      refine (specPrime _).mono ?_
      rintro e w6 ⟨rfl, hb6⟩
      replace BB := BB.calm hb6
      clear hb6
      go_wp2_with fail
      refine (specOut PL _ PL_len PL_lm).mono ?_
      rintro e w7 ⟨aN, cN, rfl, ho, hb7⟩
      have hs6 := BB.p3.lt
      replace BB := BB.calm hb7
      obtain ⟨gN, CN, hv, hgN, hrow⟩ := own_row ho PL_lm
      injection hv with f1 _ f2
      subst f1 f2
      have hfP := BB.p3.frozen 0
      have hcP : w7.cell? ⟨P, 0, none⟩ = some (.slice (some ⟨g, 0, none⟩) 16 cO) := BB.p3.cell 0
      have gs := cur_grown2 w7 P (.slice (some ⟨gN, 0, none⟩) 16 cN) 0
      have hR := is_far hrow.is P 0 (.slice (some ⟨gN, 0, none⟩) 16 cN) (fun b o s e => by cases e; omega)
      have P2 := BB.p2.other ⟨P, 0, none⟩ (.slice (some ⟨gN, 0, none⟩) 16 cN) (by show w.heap.size ≠ P; omega)
      have P3 := BB.p3.set 0 (.slice (some ⟨gN, 0, none⟩) 16 cN)
      have GR := grown_into BB.gr gs (by intro k hk; cases hk; exact .inl (by omega))
      have CU := cur_keep BB.cur gs (fun e => by have := Option.some.inj e; have := BB.hp; omega)
      have hgw2 : w.heap.size < gN := by omega
      have FF := bent_fin GR CU P2 hR (fun b o s e => by cases e; exact hgw2) (by omega) hp0
      have hcP2 : (w7.setCell ⟨P, 0, none⟩ (.slice (some ⟨gN, 0, none⟩) 16 cN)).cell? ⟨P, 0, none⟩ = some (.slice (some ⟨gN, 0, none⟩) 16 cN) := P3.cell 0
      have hc2 : (w7.setCell ⟨P, 0, none⟩ (.slice (some ⟨gN, 0, none⟩) 16 cN)).cell? ⟨w.heap.size, 0, none⟩ = some (.slice none 0 0) := P2.cell 0
      have hf2 := P2.frozen 0
      have HF : Hid _ := FF
      clear FF BB hR gs P2 P3 GR CU ho hb7 hrow hgN
      go_wp2
      exact bodyPost_ret (results_cell_row rfl _ _ w.heap.size 25 #[.slice (some ⟨gN, 0, none⟩) 16 cN] (0, 0) _ rfl HF.out.2 Tryd.underlying25 rfl infoFe) rfl ⟨_, _, rfl, HF.out.1⟩
    by_cases e2 : k = 2
    · subst e2
      have gs := cur_grown2 w5 P (.slice (some ⟨g, 1, none⟩) 15 (cO - 1)) 0
      have hR := is_far BB.row.rest P 0 (.slice (some ⟨g, 1, none⟩) 15 (cO - 1)) (fun b o s e => by cases e; exact hne)
      have P2 := BB.p2.other ⟨P, 0, none⟩ (.slice (some ⟨g, 1, none⟩) 15 (cO - 1)) (by show w.heap.size ≠ P; omega)
      have P3 := BB.p3.set 0 (.slice (some ⟨g, 1, none⟩) 15 (cO - 1))
      have GR := grown_into BB.gr gs (by intro k hk; cases hk; exact .inl (by omega))
      have CU := cur_keep BB.cur gs (fun e => by have := Option.some.inj e; have := BB.hp; omega)
      have FF := bent_fin GR CU P2 hR (fun b o s e => by cases e; exact hgw) (by omega) hp0
      have hcP2 : (w5.setCell ⟨P, 0, none⟩ (.slice (some ⟨g, 1, none⟩) 15 (cO - 1))).cell? ⟨P, 0, none⟩ = some (.slice (some ⟨g, 1, none⟩) 15 (cO - 1)) := P3.cell 0
      have hc2 : (w5.setCell ⟨P, 0, none⟩ (.slice (some ⟨g, 1, none⟩) 15 (cO - 1))).cell? ⟨w.heap.size, 0, none⟩ = some (.slice none 0 0) := P2.cell 0
      have hf2 := P2.frozen 0
      have HF : Hid _ := FF
      clear FF BB hR gs P2 P3 GR CU
      go_wp2
      exact bodyPost_ret (results_cell_row rfl _ _ w.heap.size 25 #[.slice (some ⟨g, 1, none⟩) 15 (cO - 1)] (0, 0) _ rfl HF.out.2 Tryd.underlying25 rfl infoFe) rfl ⟨_, _, rfl, HF.out.1⟩
    · have hR := BB.row.put 15 (by omega) 32768 (by omega)
      have gs := cur_grown2 w5 g (.int .i64 32768) 15
      have P2 := BB.p2.other ⟨g, 15, none⟩ (.int .i64 32768) (by show w.heap.size ≠ g; omega)
      have P3 := BB.p3.other ⟨g, 15, none⟩ (.int .i64 32768) (by show P ≠ g; omega)
      have GR := grown_into BB.gr gs (by intro k hk; cases hk; exact .inl (by omega))
      have CU := cur_keep BB.cur gs (fun e => by have := Option.some.inj e; omega)
      have FF := bent_fin GR CU P2 hR (fun b o s e => by cases e; exact hgw) (by omega) hp0
      have hcP2 : (w5.setCell ⟨g, 15, none⟩ (.int .i64 32768)).cell? ⟨P, 0, none⟩ = some (.slice (some ⟨g, 0, none⟩) 16 cO) := P3.cell 0
      have hc2 : (w5.setCell ⟨g, 15, none⟩ (.int .i64 32768)).cell? ⟨w.heap.size, 0, none⟩ = some (.slice none 0 0) := P2.cell 0
      have hf2 := P2.frozen 0
      have HF : Hid _ := FF
      clear FF BB hR gs P2 P3 GR CU
      go_wp2
      exact bodyPost_ret (results_cell_row rfl _ _ w.heap.size 25 #[.slice (some ⟨g, 0, none⟩) 16 cO] (0, 0) _ rfl HF.out.2 Tryd.underlying25 rfl infoFe) rfl ⟨_, _, rfl, HF.out.1⟩
end Go.Proofs.YtoblilngppjmhaaDoor

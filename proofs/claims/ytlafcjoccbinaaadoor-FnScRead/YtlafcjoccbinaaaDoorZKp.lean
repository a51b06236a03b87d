/-
  What is proved here: the contract of the specification's DrawScRead.
-/
import Derived.Test.YtlafcjoccbinaaaDoorZV
import Derived.Test.YtlafcjoccbinaaaDoorZK
import Derived.Test.YtlafcjoccbinaaaDoorZB
namespace Go.Proofs.YtlafcjoccbinaaaDoor
open Go.RowKit
set_option maxRecDepth 100000

/-- A row of bytes of its own, beside a cursor. -/
structure Bo (w X : World) (a : Option Addr) (n c g m C : Nat) (bs : List Int) : Prop where
  dw : Dw w X a n c
  own : X.ownsRow (w.heap.size + 1) 5 1 (.slice (some ⟨g, 0, none⟩) m C) m (U8 bs)
  byt : ∀ x ∈ bs, 0 ≤ x ∧ x < 256
section
variable {w X Y : World} {a : Option Addr} {n c g m C : Nat} {bs : List Int}
theorem Bo.draw (h : Bo w X a n c g m C bs) (hc : Cur Y w.heap.size a n c) (hg : X.grownBy Y (some w.heap.size)) : Bo w Y a n c g m C bs := ⟨h.dw.draw hc hg, own_draw h.own hg, h.byt⟩
theorem Bo.calm (h : Bo w X a n c g m C bs) (hb : Below X.heap.size X Y) : Bo w Y a n c g m C bs :=
  ⟨⟨h.dw.fr.trans (hb.mono h.dw.fr.size), cur_keep h.dw.cur (below_grown hb none) (by simp)⟩, h.own.kept (below_grown hb (some X.heap.size)) (.inr (fun e => by have := (h.own.lt _ e).2; omega)), h.byt⟩
theorem Bo.put (h : Bo w X a n c g m C bs) (j : Nat) (x : Int) (hx : 0 ≤ x ∧ x < 256) : Bo w (X.setCell ⟨g, j, none⟩ (.int .u8 x)) a n c g m C (bs.set j x) := by
  have hs := h.own.stored j (.int .u8 x)
  refine ⟨h.dw.app h.own hs.2, ?_, ?_⟩
  · rw [show U8 (bs.set j x) = (U8 bs).set j (.int .u8 x) from List.map_set]
    exact hs.1
  · intro y hy
    rcases List.mem_or_eq_of_mem_set hy with h1 | rfl
    · exact h.byt y h1
    · exact hx
theorem Bo.cell (h : Bo w X a n c g m C bs) (j : Nat) (hj : j < m) : X.cell? ⟨g, j, none⟩ = some (.int .u8 (bs.getD j 0)) := by
  rw [h.own.cellAt j (by omega)]
  have hl : bs.length = m := by have := h.own.1; simpa using this
  simp [show j < bs.length by omega]
theorem Bo.fin (h : Bo w X a n c g m C bs) : Bs X (some ⟨g, 0, none⟩) m C bs ∧ (∀ b o s, (some ⟨g, 0, none⟩ : Option Addr) = some ⟨b, o, s⟩ → w.heap.size ≤ b) ∧ Below w.heap.size w X :=
  ⟨bs_of_own h.own h.byt, fun b o s e => by cases e; have := (h.own.lt g rfl).1; omega, h.dw.fr⟩
theorem byt_snoc {l : List Int} (h : ∀ x ∈ l, 0 ≤ x ∧ x < 256) : ∀ x ∈ l ++ [0], 0 ≤ x ∧ x < 256 := by
  intro x hx
  rcases List.mem_append.1 hx with h1 | h1
  · exact h x h1
  · have := List.mem_singleton.1 h1; omega
theorem bo_new {v : Value} {B : Nat} (dw : Dw w X a n c) (ho : X.ownsRow B 5 1 v m (U8 bs)) (hB : w.heap.size + 1 ≤ B) (hm : 0 < m) (hb : ∀ x ∈ bs, 0 ≤ x ∧ x < 256) : ∃ g C, v = .slice (some ⟨g, 0, none⟩) m C ∧ m ≤ C ∧ Bo w X a n c g m C bs := by
  rcases (own_shape ho).2 with ⟨h1, h2⟩ | ⟨g, C, rfl, hg, hgs, hC, _⟩
  · omega
  · exact ⟨g, C, rfl, hC, dw, own_base ho hB, hb⟩
end

set_option maxHeartbeats 4000000 in
theorem drawScRead (a : Option Addr) (n c : Nat) (xs : List Int) (w : World) (h : Bs w a n c xs) (hm : n ≤ 9223372036854775807) :
    Calls Tryd.prog 20 #[.slice a n c] w fun e w' => ∃ a' n' c' bs, e = .returned (.slice a' n' c') ∧ Bs w' a' n' c' bs ∧ n' ≤ 65 ∧ (∀ b o s, a' = some ⟨b, o, s⟩ → w.heap.size ≤ b) ∧ Below w.heap.size w w' := by
  have HCO : Hid (∀ W, Dw w W a n c → Coded W w.heap.size a n c xs) := by unfold Hid; intro W d; exact coded_of h hm d.fr
  go_enter Tryd.func20, Tryd.ntmps20
  go_wp2_with fail
  refine (curNew a n c xs _ h hm).mono ?_
  rintro e w1 ⟨rfl, c1, d1, hs1, fr1⟩
  have D1 : Dw w w1 a n c := ⟨fr1, c1⟩
  clear c1 d1 hs1 fr1
  go_wp2_with fail
  refine (curDraw5 w.heap.size a n c xs _ D1.cur (HCO.out _ D1)).mono ?_
  rintro e w2 ⟨l, rfl, hok, c2, g2⟩
  obtain ⟨hll, hlm, _⟩ := (scOk_iff l).1 hok
  have D2 := D1.draw c2 g2
  clear c2 g2 D1 hok
  go_wp2_with fail
  refine (specBytes16 l _ hll hlm).mono ?_
  rintro e w3 ⟨v, rfl, ho, hb3⟩
  have D3 : Dw w w3 a n c := ⟨D2.fr.trans (hb3.mono D2.fr.size), cur_keep D2.cur (below_grown hb3 none) (by simp)⟩
  obtain ⟨g, C, rfl, hC, BB⟩ := bo_new D3 ho D2.lt (by omega) (btL_byte hlm)
  obtain ⟨bs, hbs⟩ : ∃ bs, bs = btL l := ⟨_, rfl⟩
  rw [← hbs] at BB
  clear D2 D3 ho hb3 hbs h
  have HPB : Hid (∀ Z, Calls Tryd.prog 50 #[.agg (I64 OL).toArray] Z fun e w' => ∃ v, e = .returned v ∧ w'.ownsRow Z.heap.size 5 1 v 32 (U8 (btL OL)) ∧ Below Z.heap.size Z w') := by
    unfold Hid; intro Z; exact specBytes16 OL Z OL_len OL_lm
  go_wp2_with fail
  refine (curOnce w.heap.size a n c xs 4 _ BB.dw.cur (HCO.out _ BB.dw) (by omega)).mono ?_
  rintro e w4 ⟨x4, rfl, c4, g4⟩
  replace BB := BB.draw c4 g4
  clear c4 g4
  have hc31 := BB.cell 31 (by omega)
  have hf31 := BB.own.frozenAt 31
  have B2 := BB.put 31 255 (by omega)
  cases x4
  case' true => replace BB := B2
  case' true => obtain ⟨bs, hbs⟩ : ∃ cs, cs = bs.set 31 255 := ⟨_, rfl⟩
  case' true => rw [← hbs] at BB
  case' true => clear hbs
  all_goals
    clear B2
    go_wp2_with fail
    clear hc31 hf31
    refine (curOnce w.heap.size a n c xs 6 _ BB.dw.cur (HCO.out _ BB.dw) (by omega)).mono ?_
    rintro e w5 ⟨x5, rfl, c5, g5⟩
    replace BB := BB.draw c5 g5
    clear c5 g5
    cases x5
    case' true =>
      go_wp2_with fail
      refine (specOrder _).mono ?_
      rintro e w6 ⟨rfl, hb6⟩
      replace BB := BB.calm hb6
      clear hb6
      go_wp2_with fail
      refine (HPB.out _).mono ?_
      rintro e w7 ⟨v7, rfl, ho7, hb7⟩
      have hlt6 := BB.dw.lt
      replace BB := BB.calm hb7
      obtain ⟨g', C', rfl, hC', BN⟩ := bo_new BB.dw ho7 hlt6 (by omega) (btL_byte OL_lm)
      clear BB ho7 hb7 hlt6
      obtain ⟨bs', hbs'⟩ : ∃ bs, bs = btL OL := ⟨_, rfl⟩
      rw [← hbs'] at BN
      clear hbs'
      have BB := BN
      clear BN
    all_goals
      go_wp2_with fail
      refine (curOnce w.heap.size a n c xs 12 _ BB.dw.cur (HCO.out _ BB.dw) (by omega)).mono ?_
      rintro e w9 ⟨x9, rfl, c9, g9⟩
      replace BB := BB.draw c9 g9
      clear c9 g9
      cases x9
      case false =>
        have HB : Hid _ := BB.fin
        clear BB
        go_wp2
        go_ret
        exact ⟨_, _, _, _, rfl, HB.out.1, by omega, HB.out.2.1, HB.out.2.2⟩
      case true =>
        have hlt9 := BB.dw.lt
        go_wp2_with (at_builtin; refine wpl_append_bs rfl _ _ rfl (w.heap.size + 1) _ 32 _ rfl (some ⟨w9.heap.size, 0, none⟩) 1 1 [0] rfl (BB.own.alloc _) (Bs.one _ _ (by omega) (by omega)) ?_ ?_ ?_)
        · omega
        · first | omega | (simp; omega)
        intro v' w' h1 h2 _
        have DA := (BB.dw.alloc (.cells #[.int .u8 0] 5)).app (BB.own.alloc _) h2
        obtain ⟨g9, C9, rfl, hC9, B9⟩ := bo_new (m := 33) (v := v') DA (by simpa using h1) (Nat.le_refl _) (by omega) (byt_snoc BB.byt)
        have HB : Hid _ := B9.fin
        clear BB DA h1 h2 B9
        go_wp2
        go_ret
        exact ⟨_, _, _, _, rfl, HB.out.1, by omega, HB.out.2.1, HB.out.2.2⟩
end Go.Proofs.YtlafcjoccbinaaaDoor

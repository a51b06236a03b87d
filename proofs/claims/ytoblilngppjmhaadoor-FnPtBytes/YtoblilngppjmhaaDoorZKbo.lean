/-
  What is proved here: a row of bytes of its own beside a cursor; the contract of the specification's DrawPtRead; the contract of the laws' same: two slices of bytes are held against each other.
-/
import Derived.Test.YtoblilngppjmhaaDoorZKe
import Derived.Test.YtoblilngppjmhaaDoorZHrd
import Derived.Test.YtoblilngppjmhaaDoorZApp
import Derived.Test.YtoblilngppjmhaaDoorZHdq
import Derived.Test.YtoblilngppjmhaaDoorZOhy
import Derived.Test.YtoblilngppjmhaaDoorZKit
import Derived.Laws.BytesArg
namespace Go.Proofs.YtoblilngppjmhaaDoor
open Go.RowKit
set_option maxRecDepth 100000

/-- A row of bytes of its own, beside a cursor. -/
structure Bo (w X : World) (a : Option Addr) (n c g m C : Nat) (bs : List Int) : Prop where
  dw : Dw w X a n c
  own : X.ownsRow (w.heap.size + 1) 5 1 (.slice (some ⟨g, 0, none⟩) m C) m (U8 bs)
  byt : ∀ x ∈ bs, 0 ≤ x ∧ x < 256
section
variable {w X Y : World} {a : Option Addr} {n c g m C : Nat} {bs : List Int}
theorem Bo.draw (h : Bo w X a n c g m C bs) (hc : Cur Y w.heap.size a n c) (hg : X.grownBy Y (some w.heap.size)) : Bo w Y a n c g m C bs := ⟨h.dw.draw hc hg, own_draw h.own hg, h.byt⟩
theorem Bo.calm (h : Bo w X a n c g m C bs) (hb : Below X.heap.size X Y) : Bo w Y a n c g m C bs :=
  ⟨⟨h.dw.fr.trans (hb.mono h.dw.fr.size), cur_keep h.dw.cur (below_grown hb none) (by simp)⟩, h.own.kept (below_grown hb (some X.heap.size)) (.inr (fun e => by have := (h.own.lt _ e).2; omega)), h.byt⟩
theorem Bo.put (h : Bo w X a n c g m C bs) (j : Nat) (x : Int) (hx : 0 ≤ x ∧ x < 256) : Bo w (X.setCell ⟨g, j, none⟩ (.int .u8 x)) a n c g m C (bs.set j x) := by
  have hs := h.own.stored j (.int .u8 x)
  refine ⟨h.dw.app h.own hs.2, ?_, ?_⟩
  · rw [show U8 (bs.set j x) = (U8 bs).set j (.int .u8 x) from List.map_set]
    exact hs.1
  · intro y hy
    rcases List.mem_or_eq_of_mem_set hy with h1 | rfl
    · exact h.byt y h1
    · exact hx
theorem Bo.cell (h : Bo w X a n c g m C bs) (j : Nat) (hj : j < m) : X.cell? ⟨g, j, none⟩ = some (.int .u8 (bs.getD j 0)) := by
  rw [h.own.cellAt j (by omega)]
  have hl : bs.length = m := by have := h.own.1; simpa using this
  simp [show j < bs.length by omega]
theorem Bo.fin (h : Bo w X a n c g m C bs) : Bs X (some ⟨g, 0, none⟩) m C bs ∧ (∀ b o s, (some ⟨g, 0, none⟩ : Option Addr) = some ⟨b, o, s⟩ → w.heap.size ≤ b) ∧ Below w.heap.size w X :=
  ⟨bs_of_own h.own h.byt, fun b o s e => by cases e; have := (h.own.lt g rfl).1; omega, h.dw.fr⟩
theorem bo_new {v : Value} {B : Nat} (dw : Dw w X a n c) (ho : X.ownsRow B 5 1 v m (U8 bs)) (hB : w.heap.size + 1 ≤ B) (hm : 0 < m) (hb : ∀ x ∈ bs, 0 ≤ x ∧ x < 256) : ∃ g C, v = .slice (some ⟨g, 0, none⟩) m C ∧ m ≤ C ∧ Bo w X a n c g m C bs := by
  rcases (own_shape ho).2 with ⟨h1, h2⟩ | ⟨g, C, rfl, hg, hgs, hC, _⟩
  · omega
  · exact ⟨g, C, rfl, hC, dw, own_base ho hB, hb⟩
end
end Go.Proofs.YtoblilngppjmhaaDoor
namespace Go.Proofs.YtoblilngppjmhaaDoor
open Go.RowKit
set_option maxRecDepth 100000

theorem Bs.dropR {w : World} {b o : Nat} {n c m : Nat} {xs : List Int} (h : Bs w (some ⟨b, o, none⟩) n c xs) (hm : m ≤ n) : Bs w (some ⟨b, o + m, none⟩) (n - m) (c - m) (xs.drop m) := by
  obtain ⟨h0, h1, h2, h3, h4⟩ := h
  refine ⟨(fun h => by cases h), by simp; omega, by omega, fun x hx => h3 x (List.mem_of_mem_drop hx), ?_⟩
  by_cases hz : n - m = 0
  · exact .inl hz
  rcases h4 with h4 | ⟨b', o', ha, hlt, hc⟩
  · exact .inl (by omega)
  · cases ha
    refine .inr ⟨b, o + m, rfl, hlt, fun j hj => ?_⟩
    have := hc (m + j) (by omega)
    rw [show o + m + j = o + (m + j) by omega, this]
    simp [List.getD, List.getElem?_drop]

theorem xor_top : ∀ t : Fin 256, 0 ≤ bits .xor .u8 ((t.val : Nat) : Int) 128 ∧ bits .xor .u8 ((t.val : Nat) : Int) 128 < 256 := by decide
theorem xor_byte {t : Int} (h0 : 0 ≤ t) (h1 : t < 256) : 0 ≤ bits .xor .u8 t 128 ∧ bits .xor .u8 t 128 < 256 := by
  obtain ⟨n, rfl⟩ := Int.eq_ofNat_of_zero_le h0
  exact xor_top ⟨n, by omega⟩
theorem getD_byte {bs : List Int} (h : ∀ x ∈ bs, 0 ≤ x ∧ x < 256) (j : Nat) : 0 ≤ bs.getD j 0 ∧ bs.getD j 0 < 256 := by
  rw [List.getD_eq_getElem?_getD]
  rcases e : bs[j]? with _ | x
  · simp
  · exact h x (List.mem_of_getElem? e)

set_option maxHeartbeats 4000000 in
theorem drawPtRead (a : Option Addr) (n c : Nat) (xs : List Int) (w : World) (h : Bs w a n c xs) (hm : n ≤ 9223372036854775807) :
    Calls Tryd.prog 31 #[.slice a n c] w fun e w' => ∃ a' n' c' bs, e = .returned (.slice a' n' c') ∧ Bs w' a' n' c' bs ∧ n' ≤ 65 ∧ (∀ b o s, a' = some ⟨b, o, s⟩ → w.heap.size ≤ b) ∧ Below w.heap.size w w' := by
  have HCO : Hid (∀ W, Dw w W a n c → Coded W w.heap.size a n c xs) := by unfold Hid; intro W d; exact coded_of h hm d.fr
  go_enter Tryd.func31, Tryd.ntmps31
  go_wp2_with fail
  refine (curNew a n c xs _ h hm).mono ?_
  rintro e w1 ⟨rfl, c1, d1, hs1, fr1⟩
  have D1 : Dw w w1 a n c := ⟨fr1, c1⟩
  clear c1 d1 hs1 fr1
  go_wp2_with fail
  refine (curDraw6 w.heap.size a n c xs _ D1.cur (HCO.out _ D1)).mono ?_
  rintro e w2 ⟨R, rfl, hok, c2, g2⟩
  have D2 := D1.draw c2 g2
  clear c2 g2 D1
  go_wp2_with fail
  refine (spec6bytes R _ hok).mono ?_
  rintro e w3 ⟨v, rfl, ho, hb3⟩
  have D3 : Dw w w3 a n c := ⟨D2.fr.trans (hb3.mono D2.fr.size), cur_keep D2.cur (below_grown hb3 none) (by simp)⟩
  obtain ⟨g, C, rfl, hC, BB⟩ := bo_new D3 ho D2.lt (by omega) (ptBt_byte (ok_red _))
  obtain ⟨bs, hbs⟩ : ∃ bs, bs = ptBt (flx R) (fly R) := ⟨_, rfl⟩
  rw [← hbs] at BB
  clear D2 D3 ho hb3 hbs h hok
  go_wp2_with fail
  refine (curOnce w.heap.size a n c xs 3 _ BB.dw.cur (HCO.out _ BB.dw) (by omega)).mono ?_
  rintro e w4 ⟨x4, rfl, c4, g4⟩
  replace BB := BB.draw c4 g4
  clear c4 g4
  cases x4
  case' true =>
    go_wp2_with fail
    refine (curBelow w.heap.size a n c xs 32 _ BB.dw.cur (HCO.out _ BB.dw) (by omega)).mono ?_
    rintro e w5 ⟨k, rfl, k0, k1, _, c5, g5⟩
    replace BB := BB.draw c5 g5
    clear c5 g5
    obtain ⟨j, rfl⟩ : ∃ j : Nat, k = (j : Int) := ⟨k.toNat, by omega⟩
    have hj : j < 32 := by have := k1 (by omega); omega
    clear k0 k1
    go_wp2_with fail
    refine (curByte w.heap.size a n c xs _ BB.dw.cur (HCO.out _ BB.dw)).mono ?_
    rintro e w6 ⟨y, rfl, y0, y1, c6, g6⟩
    replace BB := BB.draw c6 g6
    clear c6 g6
    have hyw : IntKind.u8.wrap y = y := by rw [IntKind.wrap_u8]; omega
    have hcj := BB.cell j (by omega)
    have hfj := BB.own.frozenAt j
    replace BB := BB.put j y (by omega)
    obtain ⟨bs, hbs⟩ : ∃ cs, cs = bs.set j y := ⟨_, rfl⟩
    rw [← hbs] at BB
    clear hbs
  all_goals
    go_wp2_with fail
    refine (curOnce w.heap.size a n c xs 9 _ BB.dw.cur (HCO.out _ BB.dw) (by omega)).mono ?_
    rintro e w7 ⟨x7, rfl, c7, g7⟩
    replace BB := BB.draw c7 g7
    clear c7 g7
    have hcj := BB.cell 31 (by omega)
    have hfj := BB.own.frozenAt 31
    have hbt := getD_byte BB.byt 31
    obtain ⟨t, ht⟩ : ∃ t, t = bs.getD 31 0 := ⟨_, rfl⟩
    rw [← ht] at hcj hbt
    clear ht
    have hz := xor_byte hbt.1 hbt.2
    have B2 := BB.put 31 (bits .xor .u8 t 128) hz
    cases x7
    case' true => replace BB := B2
    case' true => obtain ⟨bs, hbs⟩ : ∃ cs, cs = bs.set 31 (bits .xor .u8 t 128) := ⟨_, rfl⟩
    case' true => rw [← hbs] at BB
    case' true => clear hbs
    all_goals
      clear B2
      go_wp2_with fail
      clear hcj hfj
      refine (curOnce w.heap.size a n c xs 15 _ BB.dw.cur (HCO.out _ BB.dw) (by omega)).mono ?_
      rintro e w9 ⟨x9, rfl, c9, g9⟩
      replace BB := BB.draw c9 g9
      clear c9 g9
      have HB : Hid _ := BB.fin
      have hC1 : ¬ (C = 1) := by omega
      clear BB
      cases x9
      case false =>
        go_wp2
        go_ret
        exact ⟨_, _, _, _, rfl, HB.out.1, by omega, HB.out.2.1, HB.out.2.2⟩
      case true =>
        have HD : Hid _ := HB.out.1.dropR (m := 1) (by omega)
        go_wp2
        go_ret
        exact ⟨_, _, _, _, rfl, HD.out, by omega, fun b o s e => by cases e; exact HB.out.2.1 _ _ _ rfl, HB.out.2.2⟩
end Go.Proofs.YtoblilngppjmhaaDoor
namespace Go.Proofs.YtoblilngppjmhaaDoor
set_option maxRecDepth 100000
open Go.RowKit

theorem conv_bs {w : World} {a : Option Addr} {n c : Nat} {xs : List Int} (h : Bs w a n c xs) : (convert 22 9 (.slice a n c)).run Tryd.prog w = .ok (.string (strOfNums xs)) w := by
  obtain ⟨_, hl, hc, _, h⟩ := h
  rcases h with h | ⟨b, o, rfl, _, hcell⟩
  · subst h
    have hx : xs = [] := List.eq_nil_of_length_eq_zero hl
    subst hx
    rw [run_convert_bytes_string w 22 9 5 _ 0 c Tryd.underlying22 Tryd.underlying5 Tryd.underlying9]
    cases a with
    | none => simp [Conv.bytesToString]; rfl
    | some ad => simp [Conv.bytesToString, loadCells]; rfl
  · exact run_convert_bytes_arg w 22 5 Tryd.underlying22 Tryd.underlying5 b o n c xs hl hcell 9 Tryd.underlying9

set_option maxHeartbeats 400000 in
theorem sameB (a a' : Option Addr) (n c n' c' : Nat) (xs ys : List Int) (w : World) (h : Bs w a n c xs) (h' : Bs w a' n' c' ys) :
    Calls Tryd.prog 32 #[.slice a n c, .slice a' n' c'] w fun e w' => e = .returned (.bool ((strOfNums xs).toList == (strOfNums ys).toList)) ∧ w' = w := by
  have g1 := conv_bs h
  have g2 := conv_bs h'
  clear h h'
  go_enter Tryd.func32, Tryd.ntmps32
  go_wp2
  go_ret
  exact ⟨rfl, rfl⟩

theorem sameT (a a' : Option Addr) (n c n' c' : Nat) (xs ys : List Int) (w : World) (h : Bs w a n c xs) (h' : Bs w a' n' c' ys) (e : xs = ys) :
    Calls Tryd.prog 32 #[.slice a n c, .slice a' n' c'] w fun e w' => e = .returned (.bool true) ∧ w' = w := by
  refine (sameB a a' n c n' c' xs ys w h h').mono ?_
  rintro e' w' ⟨rfl, hw⟩
  subst e
  exact ⟨by simp, hw⟩

end Go.Proofs.YtoblilngppjmhaaDoor

/-
  What is proved here: what the method bundle of the program's reader does: it gives back the bundle that stands there, or gives up by a panic.
-/
import Derived.Test.YtofflhhlacdgfaaDoorRd2
import Derived.Test.YtofflhhlacdgfaaDoorJM21
import Derived.Deep.AppendLies
import Derived.Deep.RegionLaw
namespace Go.Proofs.YtofflhhlacdgfaaDoor
open Go.RowKit Ma
set_option maxRecDepth 100000
set_option maxHeartbeats 16000000
set_option linter.unusedVariables false

/-- The parts of a row, their sums in rows of their own, all apart. -/
def Prts (lo : Nat) (W : World) (ll : List L4) (l : List PartM) : Prop := ll.length = l.length ∧ (∀ q, q < l.length → ∃ a c, lg ll q = ⟨.int .i64 (l.getD q pz).k, .int .i64 (l.getD q pz).v, .int .i64 (l.getD q pz).s, .slice a 32 c⟩ ∧ W.ownsRow lo 5 1 (.slice a 32 c) 32 (U8 (l.getD q pz).h)) ∧ ∀ q q', q < q' → q' < l.length → Apart (lg ll q).d (lg ll q').d
section
variable {W W' : World} {lo R : Nat} {ll : List L4} {l : List PartM}
theorem Prts.nil {lo : Nat} {W : World} : Prts lo W [] [] := ⟨rfl, (fun q hq => by cases hq), (fun q q' _ h => by cases h)⟩
theorem Prts.p (h : Prts lo W ll l) (hp : R < lo) (hg : W.grownBy W' (some R)) : Prts lo W' ll l := ⟨h.1, fun q hq => by
  obtain ⟨a, c, e, o⟩ := h.2.1 q hq
  exact ⟨a, c, e, own_pk o hp hg⟩, h.2.2⟩
theorem Prts.below (h : Prts lo W ll l) (hb : Below W.heap.size W W') : Prts lo W' ll l := ⟨h.1, fun q hq => by
  obtain ⟨a, c, e, o⟩ := h.2.1 q hq
  exact ⟨a, c, e, own_below o hb⟩, h.2.2⟩
theorem Prts.drew (h : Prts lo W ll l) : Prts lo W.drew ll l := ⟨h.1, fun q hq => h.2.1 q hq, h.2.2⟩
theorem Prts.low {lo' : Nat} (h : Prts lo' W ll l) (hl : lo ≤ lo') : Prts lo W ll l := ⟨h.1, fun q hq => by
  obtain ⟨a, c, e, o⟩ := h.2.1 q hq
  exact ⟨a, c, e, own_lowK o hl⟩, h.2.2⟩
theorem Prts.grown {lo' t n : Nat} {v : Value} {ys : List Value} (h : Prts lo W ll l) (o' : W.ownsRow lo' t 4 v n ys) (ht : t ≠ 5) (hg : W.grownBy W' v.ownBlock) : Prts lo W' ll l := ⟨h.1, fun q hq => by
  obtain ⟨a, c, e, o⟩ := h.2.1 q hq
  exact ⟨a, c, e, o.kept hg (own_types o' o ht)⟩, h.2.2⟩
theorem Prts.cell {t' G j : Nat} {u : Value} {cs : List Value} (h : Prts lo W ll l) (A : Arr W G t' cs) (ht : t' ≠ 5) : Prts lo (W.setCell ⟨G, j, none⟩ u) ll l := ⟨h.1, fun q hq => by
  obtain ⟨a, c, e, o⟩ := h.2.1 q hq
  exact ⟨a, c, e, own_cellP o A ht⟩, h.2.2⟩
/-- A sum that was not there is apart from all that were. -/
theorem Prts.fresh {Z : World} {B n : Nat} {u : Value} {ys : List Value} (h : Prts lo W ll l) (o : Z.ownsRow B 5 1 u n ys) (hB : W.heap.size ≤ B) : ∀ q, q < l.length → Apart (lg ll q).d u := fun q hq => by
  obtain ⟨a, c, e, o'⟩ := h.2.1 q hq
  rw [e]
  exact apart_of o' o hB
theorem Prts.snoc (h : Prts lo W ll l) (x : PartM) (a : Option Addr) (c : Nat) (o : W.ownsRow lo 5 1 (.slice a 32 c) 32 (U8 x.h)) (hf : ∀ q, q < l.length → Apart (lg ll q).d (.slice a 32 c)) : Prts lo W (ll ++ [⟨.int .i64 x.k, .int .i64 x.v, .int .i64 x.s, .slice a 32 c⟩]) (l ++ [x]) := by
  have hl := h.1
  have e1 : lg (ll ++ [⟨.int .i64 x.k, .int .i64 x.v, .int .i64 x.s, .slice a 32 c⟩]) l.length = ⟨.int .i64 x.k, .int .i64 x.v, .int .i64 x.s, .slice a 32 c⟩ := by
    unfold lg
    rw [← hl]
    simp [List.getD_eq_getElem?_getD]
  have e2 : ∀ q, q < l.length → lg (ll ++ [⟨.int .i64 x.k, .int .i64 x.v, .int .i64 x.s, .slice a 32 c⟩]) q = lg ll q := fun q hq => by
    unfold lg
    rw [List.getD_eq_getElem?_getD, List.getD_eq_getElem?_getD, List.getElem?_append_left (by omega)]
  refine ⟨by rw [List.length_append, List.length_append, h.1]; rfl, fun q hq => ?_, fun q q' hqq hq' => ?_⟩
  · by_cases e : q = l.length
    · subst e
      have e3 : (l ++ [x]).getD l.length pz = x := by simp [List.getD_eq_getElem?_getD]
      rw [e3, e1]
      exact ⟨a, c, rfl, o⟩
    · rw [List.length_append] at hq
      have hq2 : q < l.length := by simp at hq; omega
      obtain ⟨a', c', e', o'⟩ := h.2.1 q hq2
      have e3 : (l ++ [x]).getD q pz = l.getD q pz := by
        rw [List.getD_eq_getElem?_getD, List.getD_eq_getElem?_getD, List.getElem?_append_left hq2]
      rw [e3, e2 q hq2]
      exact ⟨a', c', e', o'⟩
  · rw [List.length_append] at hq'
    by_cases e : q' = l.length
    · subst e
      rw [e1, e2 q hqq]
      exact hf q hqq
    · have hq2 : q' < l.length := by simp at hq'; omega
      rw [e2 q' hq2, e2 q (by omega)]
      exact h.2.2 q q' hqq hq2
end
theorem Rg.drew {w W : World} {R : Nat} {a : Option Addr} {n c q : Nat} (g : Rg w W R a n c q) : Rg w W.drew R a n c q := ⟨⟨g.G.os, g.G.tape, g.G.output, g.G.size, g.G.block⟩, g.A⟩
theorem own_set5 {W : World} {lo t t' s n G : Nat} {v : Value} {ys cs : List Value} (k : W.ownsRow lo t s v n ys) (A : Arr W G t' cs) (ht : t' ≠ t) (u0 u1 u2 u3 u4 : Value) :
    (((((W.setCell ⟨G, 0, none⟩ u0).setCell ⟨G, 1, none⟩ u1).setCell ⟨G, 2, none⟩ u2).setCell ⟨G, 3, none⟩ u3).setCell ⟨G, 4, none⟩ u4).ownsRow lo t s v n ys :=
  own_cellP (own_cellP (own_cellP (own_cellP (own_cellP k A ht) (A.set 0 u0) ht) ((A.set 0 u0).set 1 u1) ht) (((A.set 0 u0).set 1 u1).set 2 u2) ht) ((((A.set 0 u0).set 1 u1).set 2 u2).set 3 u3) ht
theorem Prts.set5 {W : World} {lo t' G : Nat} {ll : List L4} {l : List PartM} {cs : List Value} (h : Prts lo W ll l) (A : Arr W G t' cs) (ht : t' ≠ 5) (u0 u1 u2 u3 u4 : Value) :
    Prts lo (((((W.setCell ⟨G, 0, none⟩ u0).setCell ⟨G, 1, none⟩ u1).setCell ⟨G, 2, none⟩ u2).setCell ⟨G, 3, none⟩ u3).setCell ⟨G, 4, none⟩ u4) ll l :=
  ((((h.cell A ht).cell (A.set 0 u0) ht).cell ((A.set 0 u0).set 1 u1) ht).cell (((A.set 0 u0).set 1 u1).set 2 u2) ht).cell ((((A.set 0 u0).set 1 u1).set 2 u2).set 3 u3) ht
theorem Rg.set5 {w W : World} {R : Nat} {a : Option Addr} {n c q : Nat} (g : Rg w W R a n c q) {X : Nat} (hX : w.heap.size ≤ X) (hR : R < w.heap.size) (u0 u1 u2 u3 u4 : Value) :
    Rg w (((((W.setCell ⟨X, 0, none⟩ u0).setCell ⟨X, 1, none⟩ u1).setCell ⟨X, 2, none⟩ u2).setCell ⟨X, 3, none⟩ u3).setCell ⟨X, 4, none⟩ u4) R a n c q :=
  ((((g.set hX hR 0 u0).set hX hR 1 u1).set hX hR 2 u2).set hX hR 3 u3).set hX hR 4 u4
theorem shape4 {W : World} {lo t n : Nat} {v : Value} {ys : List Value} (h : W.ownsRow lo t 4 v n ys) : ∃ a c, v = .slice a n c := by
  rcases h.2 with ⟨h, h0⟩ | ⟨g, cap, cur, h, _⟩
  · exact ⟨none, 0, by rw [h, h0]⟩
  · exact ⟨_, cap, h⟩
theorem rdBundle (R : Nat) (a : Option Addr) (n c : Nat) (xs : List Int) (w : World) (h : Rdr w R a n c 0 xs) (hn : n ≤ 1048576) (hR : R ≠ 0) (hne : ∀ b o, a = some ⟨b, o, none⟩ → 0 < n → b ≠ R) :
    Calls Tryd.prog 64 #[.pointer (some ⟨R, 0, none⟩)] w fun e w' => (∃ B q pa pc na nc ll, rbun xs = some (B, q) ∧ e = .returned (.agg #[.int .i64 B.d, .int .i64 B.n, .int .i64 B.f, .slice pa B.ps.length pc, .slice na B.ns.length nc]) ∧ q ≤ n ∧ w'.ownsRow w.heap.size 45 4 (.slice pa B.ps.length pc) B.ps.length (QL ll) ∧ Prts w.heap.size w' ll B.ps ∧ w'.ownsRow w.heap.size 41 4 (.slice na B.ns.length nc) B.ns.length (FL (B.ns.map nrc)) ∧ w.grownBy w' (some R) ∧ Arr w' R 82 (RdC a n c q)) ∨ (rbun xs = none ∧ Dead e ∧ w.grownBy w' (some R)) := by
  have hlR := h.A.lt
  have hy : ByL xs := h.b.2.2.2.1
  have H : Hid (Rdr w R a n c 0 xs) := h
  obtain ⟨p0, hp0e⟩ : ∃ p0, p0 = 0 := ⟨_, rfl⟩
  have hp0 : p0 ≤ n := by omega
  have RG0 := h.rg
  rw [← hp0e] at RG0
  have HP0 : Hid (p0 = 0) := hp0e
  obtain ⟨V, hV⟩ : ∃ V, V = (w.alloc (.cells #[.int .i64 0, .int .i64 0, .int .i64 0, .slice none 0 0, .slice none 0 0] 26)).alloc (.cells #[.int .i64 0, .int .i64 0, .int .i64 0, .slice none 0 0, .slice none 0 0] 26) := ⟨_, rfl⟩
  have QV : Arr V w.heap.size 26 [.int .i64 0, .int .i64 0, .int .i64 0, .slice none 0 0, .slice none 0 0] := by rw [hV]; exact (Arr.new _ _ _).alloc _
  have QX : Arr V (w.heap.size + 1) 26 [.int .i64 0, .int .i64 0, .int .i64 0, .slice none 0 0, .slice none 0 0] := by
    have := Arr.new (w.alloc (.cells #[.int .i64 0, .int .i64 0, .int .i64 0, .slice none 0 0, .slice none 0 0] 26)) [.int .i64 0, .int .i64 0, .int .i64 0, .slice none 0 0, .slice none 0 0] 26
    rw [hV]
    simpa using this
  have RG : Rg w V R a n c p0 := by rw [hV]; exact (RG0.alloc _).alloc _
  obtain ⟨X, hXe⟩ : ∃ X, X = w.heap.size + 1 := ⟨_, rfl⟩
  have hX : w.heap.size ≤ X := by omega
  have hXV : w.heap.size ≠ X := by omega
  have hRV : R ≠ w.heap.size := by omega
  have hRX : R ≠ X := by omega
  clear h RG0
  go_enter Tryd.func64, Tryd.ntmps64
  go_upto_region 2 with fail
  try rw [← hV]
  rw [← hXe] at QX
  try rw [← hXe]
  clear hV hXe hp0e
  go_wp2_with fail
  refine (rdNumber R a n c p0 xs _ RG.A (RG.rdr H.out hne hR).b hn hp0 (RG.rdr H.out hne hR).e).mono ?_
  rintro e w0 (⟨v0, p1, hr0, rfl, hp1, hg, hA⟩ | ⟨hr0, ⟨T, pv, rfl⟩, hg⟩)
  case inr => exact ⟨rfl, .inr ⟨by unfold rbun; rw [← HP0.out]; simp [hr0], ⟨_, _, rfl⟩, grown_trans RG.G hg⟩⟩
  replace RG := RG.num hg hA
  replace QV := QV.pk hg hRV
  replace QX := QX.pk hg hRX
  clear hg hA
  have c0 := QX.cell 0
  simp at c0
  have fX := QX.frozen
  have lX := QX.lt
  go_upto_region 3 with fail
  replace RG := RG.set hX hlR 0 (.int .i64 v0)
  replace QV := QV.other ⟨X, 0, none⟩ (.int .i64 v0) (by show w.heap.size ≠ X; omega)
  replace QX := QX.set 0 (.int .i64 v0)
  simp only [List.set_cons_zero] at QX
  clear c0 fX lX
  obtain ⟨z0, hZ⟩ : ∃ Z, Z = w0.setCell ⟨X, 0, none⟩ (.int .i64 v0) := ⟨_, rfl⟩
  rw [← hZ] at RG QV QX ⊢
  clear hZ
  go_wp2_with fail
  refine (rdNumber R a n c p1 xs _ RG.A (RG.rdr H.out hne hR).b hn hp1 (RG.rdr H.out hne hR).e).mono ?_
  rintro e w1 (⟨v1, p2, hr1, rfl, hp2, hg, hA⟩ | ⟨hr1, ⟨T, pv, rfl⟩, hg⟩)
  case inr => exact ⟨rfl, .inr ⟨by unfold rbun; rw [← HP0.out]; simp [hr0, hr1], ⟨_, _, rfl⟩, grown_trans RG.G hg⟩⟩
  replace RG := RG.num hg hA
  replace QV := QV.pk hg hRV
  replace QX := QX.pk hg hRX
  clear hg hA
  have c1 := QX.cell 1
  simp at c1
  have fX := QX.frozen
  have lX := QX.lt
  go_upto_region 4 with fail
  replace RG := RG.set hX hlR 1 (.int .i64 v1)
  replace QV := QV.other ⟨X, 1, none⟩ (.int .i64 v1) (by show w.heap.size ≠ X; omega)
  replace QX := QX.set 1 (.int .i64 v1)
  simp only [List.set_cons_zero, List.set_cons_succ] at QX
  clear c1 fX lX
  obtain ⟨z1, hZ⟩ : ∃ Z, Z = w1.setCell ⟨X, 1, none⟩ (.int .i64 v1) := ⟨_, rfl⟩
  rw [← hZ] at RG QV QX ⊢
  clear hZ
  go_wp2_with fail
  refine (rdNumber R a n c p2 xs _ RG.A (RG.rdr H.out hne hR).b hn hp2 (RG.rdr H.out hne hR).e).mono ?_
  rintro e w2 (⟨v2, p3, hr2, rfl, hp3, hg, hA⟩ | ⟨hr2, ⟨T, pv, rfl⟩, hg⟩)
  case inr => exact ⟨rfl, .inr ⟨by unfold rbun; rw [← HP0.out]; simp [hr0, hr1, hr2], ⟨_, _, rfl⟩, grown_trans RG.G hg⟩⟩
  replace RG := RG.num hg hA
  replace QV := QV.pk hg hRV
  replace QX := QX.pk hg hRX
  clear hg hA
  have c2 := QX.cell 2
  simp at c2
  have fX := QX.frozen
  have lX := QX.lt
  go_upto_region 5 with fail
  replace RG := RG.set hX hlR 2 (.int .i64 v2)
  replace QV := QV.other ⟨X, 2, none⟩ (.int .i64 v2) (by show w.heap.size ≠ X; omega)
  replace QX := QX.set 2 (.int .i64 v2)
  simp only [List.set_cons_zero, List.set_cons_succ] at QX
  clear c2 fX lX
  obtain ⟨z2, hZ⟩ : ∃ Z, Z = w2.setCell ⟨X, 2, none⟩ (.int .i64 v2) := ⟨_, rfl⟩
  rw [← hZ] at RG QV QX ⊢
  clear hZ
  go_wp2_with fail
  refine (rdCount R a n c p3 xs 4 _ (RG.rdr H.out hne hR) hn hp3 hR).mono ?_
  rintro e w3 (⟨v3, p4, hr3, rfl, hp4, hg, hA⟩ | ⟨hr3, ⟨T, pv, rfl⟩, hg⟩)
  case inr => exact ⟨rfl, .inr ⟨by unfold rbun; rw [← HP0.out]; simp [hr0, hr1, hr2, hr3], ⟨_, _, rfl⟩, grown_trans RG.G hg⟩⟩
  replace RG := RG.num hg hA
  replace QV := QV.pk hg hRV
  replace QX := QX.pk hg hRX
  obtain ⟨K, rfl⟩ : ∃ K : Nat, v3 = (K : Int) := Int.eq_ofNat_of_zero_le (rnum_at hy (rcnt_at hr3).1).2.2.1
  have hK4 : K ≤ 4 := by have := (rcnt_at hr3).2; omega
  have HB0 : Hid (∀ z, rparts xs p4 K = z → rbun xs = z.bind fun P => (rcnt 8 xs P.2).bind fun m => (rneeds xs m.2 m.1.toNat).bind fun N => some (⟨v0, v1, v2, P.1, N.1⟩, N.2)) := fun z hz => by
    unfold rbun
    rw [← HP0.out]
    simp only [hr0, hr1, hr2, hr3, Option.bind_some, Int.toNat_natCast, hz]
  clear hg hA hr0 hr1 hr2 hr3 hp0 hp1 hp2 hp3
  go_wp2
  go_loopw [15] (fun i wr => ∃ (j : Nat) (l : List PartM) (ll : List L4) (pa : Option Addr) (pc q : Nat), j ≤ K ∧ i = .int .i64 j ∧ l.length = j ∧ q ≤ n ∧ Hid (rparts xs p4 j = some (l, q)) ∧ Hid (wr.ownsRow w.heap.size 45 4 (.slice pa j pc) j (QL ll)) ∧ Hid (Prts w.heap.size wr ll l) ∧ Hid (Rg w wr R a n c q) ∧ Hid (Arr wr w.heap.size 26 [.int .i64 0, .int .i64 0, .int .i64 0, .slice none 0 0, .slice none 0 0]) ∧ Hid (Arr wr X 26 [.int .i64 v0, .int .i64 v1, .int .i64 v2, .slice pa j pc, .slice none 0 0])) (fun i _ => K - (intOf i).toNat)
  case atStart => exact ⟨0, [], [], none, 0, p4, by omega, rfl, rfl, hp4, rfl, World.ownsRow_nil _ _ _ _, Prts.nil, RG, QV, QX⟩
  case round =>
    clear RG QV QX
    obtain ⟨j, l, ll, pa, pc, q, hj, rfl, hl, hq, HR1, HO, HPr, HRG, HQV, HQX⟩ := hrel
    by_cases hlt : (j : Int) < (K : Int)
    · have hjK : j < K := by omega
      have hwj : IntKind.i64.wrap ((j : Int) + 1) = (j : Int) + 1 := wr64 (by omega) (by omega)
      obtain ⟨i9, hi, hz0, hz1, hz2⟩ := info_parts (show (Tryd.prog.info? 45).map (fun i => (i.zero, i.size, i.bytes)) = some (some (.agg #[.int .i64 0, .int .i64 0, .int .i64 0, .slice none 0 0]), 4, 48) by kernel_rfl)
      have a3 := HQX.out.cell 3
      simp at a3
      have lX := HQX.out.lt
      have fX := HQX.out.frozen
      have hk3 : j + 1 ≤ maxLen := by unfold maxLen; omega
      have hk4 : (j + 1) * 48 ≤ 140737488355328 := by omega
      have HRG1 : Hid (Rg w wr.drew R a n c q) := HRG.out.drew
      have HQV1 : Hid (Arr wr.drew w.heap.size 26 [.int .i64 0, .int .i64 0, .int .i64 0, .slice none 0 0, .slice none 0 0]) := HQV.out
      have HQX1 : Hid (Arr wr.drew X 26 [.int .i64 v0, .int .i64 v1, .int .i64 v2, .slice pa j pc, .slice none 0 0]) := HQX.out
      have HO1 : Hid (wr.drew.ownsRow w.heap.size 45 4 (.slice pa j pc) j (QL ll)) := HO.out
      have HPr1 : Hid (Prts w.heap.size wr.drew ll l) := HPr.out.drew
      clear HRG HQV HQX HO HPr
      go_wp2_with fail
      go_region_law (first
        | (refine step_append_lies _ (by rfl) _ _ _ (by rfl) w.heap.size 45 i9 _ 4 48 Tryd.underlying23 hi hz0 hz1 hz2 rfl (by omega) (.slice pa j pc) j (QL ll) (by rfl) (World.ownsRow.alloc HO2.out _) ⟨w5.heap.size, 0, none⟩ 1 1 [.int .i64 x.k, .int .i64 x.v, .int .i64 x.s, .slice va 32 vc] (by rfl) (by rfl) (World.news_of_block (cs := #[.int .i64 x.k, .int .i64 x.v, .int .i64 x.s, .slice va 32 vc]) (t := 45) (fr := (0, 0)) (heap_alloc_new w5 _)) (by simp [Value.oneCell']) (by omega) hk3 hk4 (by have := HRG2.out.G.size; simp; omega) (w5.heap.size + 1) (by simp) ?_; intro g9 cap9 w6 ho6 hg6 hat hlt6; have HQX3 : Hid (Arr w6 X 26 [.int .i64 v0, .int .i64 v1, .int .i64 v2, .slice pa j pc, .slice none 0 0]) := (HQX2.out.alloc _).gr (World.ownsRow.alloc HO2.out _) (by decide) hg6; have HQV3 : Hid (Arr w6 w.heap.size 26 [.int .i64 0, .int .i64 0, .int .i64 0, .slice none 0 0, .slice none 0 0]) := (HQV2.out.alloc _).gr (World.ownsRow.alloc HO2.out _) (by decide) hg6; have a3 := HQX3.out.cell 3; have fX := HQX3.out.frozen; have lX := HQX3.out.lt; simp at a3)
        | (go_simp; go_wp2_with (go_at_call 108; refine (rdPart R a n c q xs _ (HRG1.out.rdr H.out hne hR) hn hq hR hne).mono ?_; rintro e w5 (⟨x, q', va, vc, hrx, rfl, hq', ho, hg, hA⟩ | ⟨hrx, ⟨T, pv, rfl⟩, hg⟩); (case inr => exact ⟨rfl, .inr ⟨HB0.out _ (rparts_fail HR1.out hrx hjK), ⟨_, _, rfl⟩, grown_trans HRG1.out.G hg⟩⟩); have HRG2 : Hid (Rg w w5 R a n c q') := HRG1.out.num hg hA; have HQV2 : Hid (Arr w5 w.heap.size 26 [.int .i64 0, .int .i64 0, .int .i64 0, .slice none 0 0, .slice none 0 0]) := HQV1.out.pk hg hRV; have HQX2 : Hid (Arr w5 X 26 [.int .i64 v0, .int .i64 v1, .int .i64 v2, .slice pa j pc, .slice none 0 0]) := HQX1.out.pk hg hRX; have HO2 : Hid (w5.ownsRow w.heap.size 45 4 (.slice pa j pc) j (QL ll)) := own_pk HO1.out hlR hg; have HPr2 : Hid (Prts w.heap.size w5 ll l) := HPr1.out.p hlR hg; have HH2 : Hid (w5.ownsRow w.heap.size 5 1 (.slice va 32 vc) 32 (U8 x.h)) := own_lowK ho HRG1.out.G.size; have HAp2 : Hid (∀ q9, q9 < l.length → Apart (lg ll q9).d (.slice va 32 vc)) := HPr1.out.fresh ho (Nat.le_refl _); have HR2 : Hid (rparts xs p4 (j + 1) = some (l ++ [x], q')) := rparts_succ HR1.out hrx; have a3 := HQX2.out.cell 3; have lX := HQX2.out.lt; simp at a3; clear hg hA ho hrx HRG1 HQV1 HQX1 HO1 HPr1)))
      all_goals
        have HO4 : Hid ((w6.setCell ⟨X, 3, none⟩ (.slice (some ⟨g9, 0, none⟩) (j + 1) cap9)).ownsRow w.heap.size 45 4 (.slice (some ⟨g9, 0, none⟩) (j + 1) cap9) (j + 1) (QL (ll ++ [⟨.int .i64 x.k, .int .i64 x.v, .int .i64 x.s, .slice va 32 vc⟩]))) := own_cellP (by rw [QL_app]; exact ho6) HQX3.out (by decide)
        have o2 := World.ownsRow.alloc HO2.out (.cells #[.int .i64 x.k, .int .i64 x.v, .int .i64 x.s, .slice va 32 vc] 45)
        have h2 := World.ownsRow.alloc HH2.out (.cells #[.int .i64 x.k, .int .i64 x.v, .int .i64 x.s, .slice va 32 vc] 45)
        have HPr4 : Hid (Prts w.heap.size (w6.setCell ⟨X, 3, none⟩ (.slice (some ⟨g9, 0, none⟩) (j + 1) cap9)) (ll ++ [⟨.int .i64 x.k, .int .i64 x.v, .int .i64 x.s, .slice va 32 vc⟩]) (l ++ [x])) :=
          (((HPr2.out.below ((Below.refl _ _).alloc (Nat.le_refl _) _)).grown o2 (by decide) hg6).snoc x va vc (h2.kept hg6 (own_types o2 h2 (by decide))) HAp2.out).cell HQX3.out (by decide)
        have HRG4 : Hid (Rg w (w6.setCell ⟨X, 3, none⟩ (.slice (some ⟨g9, 0, none⟩) (j + 1) cap9)) R a n c q') := ((HRG2.out.alloc _).app o2 (Nat.le_refl _) hlR hg6).set hX hlR 3 _
        have HQV4 : Hid (Arr (w6.setCell ⟨X, 3, none⟩ (.slice (some ⟨g9, 0, none⟩) (j + 1) cap9)) w.heap.size 26 [.int .i64 0, .int .i64 0, .int .i64 0, .slice none 0 0, .slice none 0 0]) := HQV3.out.other ⟨X, 3, none⟩ _ hXV
        have HQX4 : Hid (Arr (w6.setCell ⟨X, 3, none⟩ (.slice (some ⟨g9, 0, none⟩) (j + 1) cap9)) X 26 [.int .i64 v0, .int .i64 v1, .int .i64 v2, .slice (some ⟨g9, 0, none⟩) (j + 1) cap9, .slice none 0 0]) := HQX3.out.set 3 _
        clear o2 h2 ho6 hg6 hat hlt6 HQX3 HQV3 HQX2 HQV2 HRG2 HPr2 HO2 HH2 a3 fX lX hi hz0 hz1 hz2 hk3 hk4 HR1
        go_wp2
        go_roundw
        case rel => exact ⟨j + 1, l ++ [x], _, some ⟨g9, 0, none⟩, cap9, q', by omega, by go_num, by rw [List.length_append, hl]; rfl, hq', HR2, HO4, HPr4, HRG4, HQV4, HQX4⟩
        case measure => simp [intOf]; omega
    · have hjK : j = K := by omega
      subst hjK
      have HB1 : Hid (rbun xs = (rcnt 8 xs q).bind fun m => (rneeds xs m.2 m.1.toNat).bind fun N => some (⟨v0, v1, v2, l, N.1⟩, N.2)) := HB0.out _ HR1.out
      clear HB0 HR1 hj hp4
      have RG := HRG.out
      have QV := HQV.out
      have QX := HQX.out
      clear HRG HQV HQX
      go_wp2_with fail
      refine (rdCount R a n c q xs 8 _ (RG.rdr H.out hne hR) hn hq hR).mono ?_
      rintro e w7 (⟨v7, p8, hr7, rfl, hp8, hg, hA⟩ | ⟨hr7, ⟨T, pv, rfl⟩, hg⟩)
      case inr => exact ⟨rfl, .inr ⟨by rw [HB1.out, hr7]; rfl, ⟨_, _, rfl⟩, grown_trans RG.G hg⟩⟩
      replace RG := RG.num hg hA
      replace QV := QV.pk hg hRV
      replace QX := QX.pk hg hRX
      have HO7 : Hid (w7.ownsRow w.heap.size 45 4 (.slice pa j pc) j (QL ll)) := own_pk HO.out hlR hg
      have HPr7 : Hid (Prts w.heap.size w7 ll l) := HPr.out.p hlR hg
      obtain ⟨M, rfl⟩ : ∃ M : Nat, v7 = (M : Int) := Int.eq_ofNat_of_zero_le (rnum_at hy (rcnt_at hr7).1).2.2.1
      have hM8 : M ≤ 8 := by have := (rcnt_at hr7).2; omega
      have HB2 : Hid (∀ z, rneeds xs p8 M = z → rbun xs = z.bind fun N => some (⟨v0, v1, v2, l, N.1⟩, N.2)) := fun z hz => by
        rw [HB1.out, hr7]
        simp only [Option.bind_some, Int.toNat_natCast, hz]
      clear hg hA hr7 HB1 HO HPr
      go_wp2
      go_loopw [27] (fun i wr => ∃ (r : Nat) (l2 : List NeedM) (na : Option Addr) (nc q2 : Nat), r ≤ M ∧ i = .int .i64 r ∧ l2.length = r ∧ q2 ≤ n ∧ Hid (rneeds xs p8 r = some (l2, q2)) ∧ Hid (wr.ownsRow w.heap.size 41 4 (.slice na r nc) r (FL (l2.map nrc))) ∧ Hid (wr.ownsRow w.heap.size 45 4 (.slice pa j pc) j (QL ll)) ∧ Hid (Prts w.heap.size wr ll l) ∧ Hid (Rg w wr R a n c q2) ∧ Hid (Arr wr w.heap.size 26 [.int .i64 0, .int .i64 0, .int .i64 0, .slice none 0 0, .slice none 0 0]) ∧ Hid (Arr wr X 26 [.int .i64 v0, .int .i64 v1, .int .i64 v2, .slice pa j pc, .slice na r nc])) (fun i _ => M - (intOf i).toNat)
      case atStart => exact ⟨0, [], none, 0, p8, by omega, rfl, rfl, hp8, rfl, World.ownsRow_nil _ _ _ _, HO7, HPr7, RG, QV, QX⟩
      case round =>
        clear RG QV QX HO7 HPr7
        obtain ⟨r, l2, na, nc, q2, hr, rfl, hl2, hq2, HR1, HN, HO, HPr, HRG, HQV, HQX⟩ := hrel
        by_cases hlt2 : (r : Int) < (M : Int)
        · have hrM : r < M := by omega
          have hwr : IntKind.i64.wrap ((r : Int) + 1) = (r : Int) + 1 := wr64 (by omega) (by omega)
          obtain ⟨i9, hi, hz0, hz1, hz2⟩ := info_parts (show (Tryd.prog.info? 41).map (fun i => (i.zero, i.size, i.bytes)) = some (some (rcV 0 0 0 0), 4, 32) by kernel_rfl)
          have a4 := HQX.out.cell 4
          simp at a4
          have lX := HQX.out.lt
          have fX := HQX.out.frozen
          have hk3 : r + 1 ≤ maxLen := by unfold maxLen; omega
          have hk4 : (r + 1) * 32 ≤ 140737488355328 := by omega
          have HRG1 : Hid (Rg w wr.drew R a n c q2) := HRG.out.drew
          have HQV1 : Hid (Arr wr.drew w.heap.size 26 [.int .i64 0, .int .i64 0, .int .i64 0, .slice none 0 0, .slice none 0 0]) := HQV.out
          have HQX1 : Hid (Arr wr.drew X 26 [.int .i64 v0, .int .i64 v1, .int .i64 v2, .slice pa j pc, .slice na r nc]) := HQX.out
          have HN1 : Hid (wr.drew.ownsRow w.heap.size 41 4 (.slice na r nc) r (FL (l2.map nrc))) := HN.out
          have HO1 : Hid (wr.drew.ownsRow w.heap.size 45 4 (.slice pa j pc) j (QL ll)) := HO.out
          have HPr1 : Hid (Prts w.heap.size wr.drew ll l) := HPr.out.drew
          clear HRG HQV HQX HO HPr HN
          go_wp2_with fail
          go_region_law (first
            | (refine step_append_lies _ (by rfl) _ _ _ (by rfl) w.heap.size 41 i9 _ 4 32 Tryd.underlying24 hi hz0 hz1 hz2 rfl (by omega) (.slice na r nc) r (FL (l2.map nrc)) (by rfl) (World.ownsRow.alloc HN2.out _) ⟨w8.heap.size, 0, none⟩ 1 1 [.int .i64 x.o, .int .i64 x.f, .int .i64 x.t, .int .i64 x.k] (by rfl) (by rfl) (World.news_of_block (cs := #[.int .i64 x.o, .int .i64 x.f, .int .i64 x.t, .int .i64 x.k]) (t := 41) (fr := (0, 0)) (heap_alloc_new w8 _)) (by simp [Value.oneCell']) (by omega) hk3 hk4 (by have := HRG2.out.G.size; simp; omega) (w8.heap.size + 1) (by simp) ?_; intro g9 cap9 w9 ho9 hg9 hat hlt9; have HQX3 : Hid (Arr w9 X 26 [.int .i64 v0, .int .i64 v1, .int .i64 v2, .slice pa j pc, .slice na r nc]) := (HQX2.out.alloc _).gr (World.ownsRow.alloc HN2.out _) (by decide) hg9; have HQV3 : Hid (Arr w9 w.heap.size 26 [.int .i64 0, .int .i64 0, .int .i64 0, .slice none 0 0, .slice none 0 0]) := (HQV2.out.alloc _).gr (World.ownsRow.alloc HN2.out _) (by decide) hg9; have a4 := HQX3.out.cell 4; have fX := HQX3.out.frozen; have lX := HQX3.out.lt; simp at a4)
            | (go_simp; go_wp2_with (go_at_call 109; refine (rdNeed R a n c q2 xs _ (HRG1.out.rdr H.out hne hR) hn hq2 hR hne).mono ?_; rintro e w8 (⟨x, q', hrx, rfl, hq', hg, hA⟩ | ⟨hrx, ⟨T, pv, rfl⟩, hg⟩); (case inr => exact ⟨rfl, .inr ⟨HB2.out _ (rneeds_fail HR1.out hrx hrM), ⟨_, _, rfl⟩, grown_trans HRG1.out.G hg⟩⟩); have HRG2 : Hid (Rg w w8 R a n c q') := HRG1.out.num hg hA; have HQV2 : Hid (Arr w8 w.heap.size 26 [.int .i64 0, .int .i64 0, .int .i64 0, .slice none 0 0, .slice none 0 0]) := HQV1.out.pk hg hRV; have HQX2 : Hid (Arr w8 X 26 [.int .i64 v0, .int .i64 v1, .int .i64 v2, .slice pa j pc, .slice na r nc]) := HQX1.out.pk hg hRX; have HN2 : Hid (w8.ownsRow w.heap.size 41 4 (.slice na r nc) r (FL (l2.map nrc))) := own_pk HN1.out hlR hg; have HO2 : Hid (w8.ownsRow w.heap.size 45 4 (.slice pa j pc) j (QL ll)) := own_pk HO1.out hlR hg; have HPr2 : Hid (Prts w.heap.size w8 ll l) := HPr1.out.p hlR hg; have HR2 : Hid (rneeds xs p8 (r + 1) = some (l2 ++ [x], q')) := rneeds_succ HR1.out hrx; have a4 := HQX2.out.cell 4; have lX := HQX2.out.lt; simp at a4; clear hg hA hrx HRG1 HQV1 HQX1 HO1 HPr1 HN1)))
          all_goals
            have HN4 : Hid ((w9.setCell ⟨X, 4, none⟩ (.slice (some ⟨g9, 0, none⟩) (r + 1) cap9)).ownsRow w.heap.size 41 4 (.slice (some ⟨g9, 0, none⟩) (r + 1) cap9) (r + 1) (FL ((l2 ++ [x]).map nrc))) := own_cellP (by rw [List.map_append, FL_app]; exact ho9) HQX3.out (by decide)
            have n2 := World.ownsRow.alloc HN2.out (.cells #[.int .i64 x.o, .int .i64 x.f, .int .i64 x.t, .int .i64 x.k] 41)
            have o2 := World.ownsRow.alloc HO2.out (.cells #[.int .i64 x.o, .int .i64 x.f, .int .i64 x.t, .int .i64 x.k] 41)
            have HO4 : Hid ((w9.setCell ⟨X, 4, none⟩ (.slice (some ⟨g9, 0, none⟩) (r + 1) cap9)).ownsRow w.heap.size 45 4 (.slice pa j pc) j (QL ll)) := own_cellP (o2.kept hg9 (own_ty n2 o2 (by decide))) HQX3.out (by decide)
            have HPr4 : Hid (Prts w.heap.size (w9.setCell ⟨X, 4, none⟩ (.slice (some ⟨g9, 0, none⟩) (r + 1) cap9)) ll l) := ((HPr2.out.below ((Below.refl _ _).alloc (Nat.le_refl _) _)).grown n2 (by decide) hg9).cell HQX3.out (by decide)
            have HRG4 : Hid (Rg w (w9.setCell ⟨X, 4, none⟩ (.slice (some ⟨g9, 0, none⟩) (r + 1) cap9)) R a n c q') := ((HRG2.out.alloc _).app n2 (Nat.le_refl _) hlR hg9).set hX hlR 4 _
            have HQV4 : Hid (Arr (w9.setCell ⟨X, 4, none⟩ (.slice (some ⟨g9, 0, none⟩) (r + 1) cap9)) w.heap.size 26 [.int .i64 0, .int .i64 0, .int .i64 0, .slice none 0 0, .slice none 0 0]) := HQV3.out.other ⟨X, 4, none⟩ _ hXV
            have HQX4 : Hid (Arr (w9.setCell ⟨X, 4, none⟩ (.slice (some ⟨g9, 0, none⟩) (r + 1) cap9)) X 26 [.int .i64 v0, .int .i64 v1, .int .i64 v2, .slice pa j pc, .slice (some ⟨g9, 0, none⟩) (r + 1) cap9]) := HQX3.out.set 4 _
            clear n2 o2 ho9 hg9 hat hlt9 HQX3 HQV3 HQX2 HQV2 HRG2 HPr2 HO2 HN2 a4 fX lX hi hz0 hz1 hz2 hk3 hk4 HR1
            go_wp2
            go_roundw
            case rel => exact ⟨r + 1, l2 ++ [x], some ⟨g9, 0, none⟩, cap9, q', by omega, by go_num, by rw [List.length_append, hl2]; rfl, hq', HR2, HN4, HO4, HPr4, HRG4, HQV4, HQX4⟩
            case measure => simp [intOf]; omega
        · have hrM : r = M := by omega
          subst hrM
          have HRB : Hid (rbun xs = some (⟨v0, v1, v2, l, l2⟩, q2)) := HB2.out _ HR1.out
          clear HB2 HR1
          subst hl
          subst hl2
          have QX := HQX.out
          have QV := HQV.out
          have x0 := QX.cell 0
          have x1 := QX.cell 1
          have x2 := QX.cell 2
          have x3 := QX.cell 3
          have x4 := QX.cell 4
          simp at x0 x1 x2 x3 x4
          have y0 := QV.cell 0
          have y1 := QV.cell 1
          have y2 := QV.cell 2
          have y3 := QV.cell 3
          have y4 := QV.cell 4
          simp at y0 y1 y2 y3 y4
          have fQ := QV.frozen
          have lQ := QV.lt
          have HK : Hid _ := arr_set5 QV (.int .i64 v0) (.int .i64 v1) (.int .i64 v2) (.slice pa l.length pc) (.slice na l2.length nc)
          have HG : Hid _ := HRG.out.set5 (Nat.le_refl _) hlR (.int .i64 v0) (.int .i64 v1) (.int .i64 v2) (.slice pa l.length pc) (.slice na l2.length nc)
          have HO5 : Hid _ := own_set5 HO.out QV (by decide) (.int .i64 v0) (.int .i64 v1) (.int .i64 v2) (.slice pa l.length pc) (.slice na l2.length nc)
          have HN5 : Hid _ := own_set5 HN.out QV (by decide) (.int .i64 v0) (.int .i64 v1) (.int .i64 v2) (.slice pa l.length pc) (.slice na l2.length nc)
          have HP5 : Hid (Prts _ _ _ _) := HPr.out.set5 QV (by decide) (.int .i64 v0) (.int .i64 v1) (.int .i64 v2) (.slice pa l.length pc) (.slice na l2.length nc)
          clear QX QV HQX HQV HRG HO HN HPr
          go_wp2
          exact bodyPost_ret (results_cell_row rfl _ _ w.heap.size 26 _ (0, 0) _ rfl HK.out Tryd.underlying26 rfl (by kernel_rfl)) rfl (by first | exact .inl ⟨_, q2, pa, pc, na, nc, ll, HRB.out, rfl, hq2, HO5.out, HP5.out, HN5.out, HG.out.G, HG.out.A⟩ | exact .inl ⟨_, q2, HRB.out, pa, pc, na, nc, rfl, hq2, ll, HO5.out, HP5.out, HN5.out, HG.out.G, HG.out.A⟩)
end Go.Proofs.YtofflhhlacdgfaaDoor

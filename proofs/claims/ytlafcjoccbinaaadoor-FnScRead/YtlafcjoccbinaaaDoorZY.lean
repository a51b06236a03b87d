/-
  What is proved here: the contract of the program's multiplierOfColumns: columns from the lowest on come to their number modulo the order; where the program's variable holds the order; the contracts of the program's method product and of multipliersOf; where the program's variable holds the order.
-/
import Derived.Test.YtlafcjoccbinaaaDoorZQd
import Derived.Test.YtlafcjoccbinaaaDoorZX
import Derived.Test.YtlafcjoccbinaaaDoorZN
namespace Go.Proofs.YtlafcjoccbinaaaDoor
open Go.RowKit Go.Shelf
set_option maxRecDepth 100000
attribute [local go_sem] Oper.semAt_some

/-- Where the loop over the columns stands: k rounds are done. -/
structure Ck (w : World) (S N : Nat) (cs : List Int) (k : Nat) (W : World) : Prop where
  sz : S ≤ W.heap.size
  fr : Below w.heap.size w W
  pr : Arr W w.heap.size 51 (I64 Z16)
  pn : Arr W (w.heap.size + 1) 51 (I64 (clm cs (N - k)))
theorem Ck.put {w : World} {S N : Nat} {cs : List Int} (hS : w.heap.size + 2 ≤ S) (k : Nat) (A : World) (o : Obj) (h : Ck w S N cs k A) : Ck w S N cs k (A.putObj (S + 1) o) := by
  have h2 := h.sz
  exact ⟨by simpa using h2, h.fr.grown (grownBy_putObj' _ _ _) h.fr.size (fun j e => by cases e; omega), (World.putObj_heap_other (by omega)).trans h.pr, (World.putObj_heap_other (by omega)).trans h.pn⟩

set_option maxHeartbeats 2000000 in
theorem implColumns (a : Option Addr) (N c : Nat) (cs : List Int) (w : World) (hx : Is w a N c cs) (hN0 : N ≠ 0) (hN : N ≤ 9223372036854775807) (hq : ∀ x ∈ cs, Cq x) (hV : Vr w 0 (I64 OL)) :
    Calls Tryd.prog 48 #[.slice a N c] w fun e w' => e = .returned (.agg (I64 (redO (val cs))).toArray) ∧ Below w.heap.size w w' := by
  have hNl := hx.2.1
  refine (callsIn_wide (n := 3)).1 ?_
  refine callsIn_of_wp_marks Tryd.func48 rfl trivial ?_ rfl
  simp only [Tryd.ntmps48, List.size_toArray, List.length_cons, List.length_nil, Nat.reduceAdd, Nat.reduceSub, Array.replicate_succ, Array.replicate_zero, List.push_toArray, List.append_toArray, List.nil_append, List.cons_append]
  obtain ⟨W0, hW0⟩ : ∃ W0, W0 = (w.alloc (.cells #[.int .i64 0, .int .i64 0, .int .i64 0, .int .i64 0, .int .i64 0, .int .i64 0, .int .i64 0, .int .i64 0, .int .i64 0, .int .i64 0, .int .i64 0, .int .i64 0, .int .i64 0, .int .i64 0, .int .i64 0, .int .i64 0] 51)).alloc (.cells #[.int .i64 0, .int .i64 0, .int .i64 0, .int .i64 0, .int .i64 0, .int .i64 0, .int .i64 0, .int .i64 0, .int .i64 0, .int .i64 0, .int .i64 0, .int .i64 0, .int .i64 0, .int .i64 0, .int .i64 0, .int .i64 0] 51) := ⟨_, rfl⟩
  have hS0 : W0.heap.size = w.heap.size + 2 := by rw [hW0]; simp
  have hB0 : Below w.heap.size w W0 := by rw [hW0]; exact ((Below.refl _ _).alloc (Nat.le_refl _) _).alloc (by simp) _
  have hR0 : Arr W0 w.heap.size 51 (I64 Z16) := by rw [hW0]; exact (Arr.new w (I64 Z16) _).alloc _
  have hA0 : Arr W0 (w.heap.size + 1) 51 (I64 Z16) := by
    rw [hW0]
    have := Arr.new (w.alloc (.cells (I64 Z16).toArray 51)) (I64 Z16) 51
    rw [World.size_alloc] at this
    exact this
  gi_wp2
  rw [← hW0]
  refine ⟨trivial, (callsIn_wide.2 (backF a N c W0)).mono ?_⟩
  rintro e w1 ⟨rfl, hp1, hs1, hb1⟩
  rw [hS0] at hp1 hs1
  have hB1 := hB0.trans (hb1.mono hB0.size)
  have hR1 := hR0.kept hb1
  have hA1 := hA0.kept hb1
  have hx1 := hx.below hB1
  have HT : ∀ W, Below w1.heap.size w1 W → TellsR (3 - 1) Tryd.prog 81 #[.pointer (some ⟨w.heap.size + 2, 0, none⟩)] (bkE N cs) N (fun b => b = w.heap.size + 2 ∨ ∃ o, a = some ⟨b, o, none⟩) W := by
    intro W hb
    exact backTells (3 - 1) (w.heap.size + 2) a N c cs W (hp1.kept hb) (hx1.below hb) hN
  have T0 : ∀ W, Below w1.heap.size w1 W → W.heap.size = w1.heap.size + 2 → Ck w w1.heap.size N cs 0 W := fun W hb hz => by
    refine ⟨by omega, hB1.trans (hb.mono hB1.size), hR1.kept hb, ?_⟩
    rw [Nat.sub_zero, ← hNl, clm_end]
    exact hA1.kept hb
  have HKb : ∀ b o, a = some ⟨b, o, none⟩ → b < w.heap.size := fun b o e => by
    rcases hx.2.2.2.2 with h | ⟨b', o', ha, hlt, _⟩
    · exact (hN0 h).elim
    · rw [ha] at e; cases e; exact hlt
  clear hB0 hR0 hA0 hb1 hW0 hp1 hR1 hA1 hx1
  gi_wp2
  refine range_tellsR (n := 3) (gf := 81) (lb := #[.pointer (some ⟨w.heap.size + 2, 0, none⟩)]) rfl (enters_of Tryd.func81 (by kernel_rfl) rfl)
    (fun b hb => by rw [hs1]; rcases hb with h | ⟨o, h⟩; omega; have := HKb b o h; omega) HT (fun _ => rfl) (Ck w w1.heap.size N cs) (Ck.put (by omega)) T0
    (fun k => { tmps := #[.slice a N c, undef, .pointer (some ⟨w.heap.size, 0, none⟩), .pointer (some ⟨w.heap.size + 1, 0, none⟩), undef, .int .i64 (cs.getD (N - 1 - k) 0), .slice a N c, .func (.func 81) #[] #[.pointer (some ⟨w.heap.size + 2, 0, none⟩)], .int .i64 ((N - 1 - k : Nat) : Int), .int .i64 (cs.getD (N - 1 - k) 0), undef, undef, undef, undef], defers := [] }) ?assign ?body ?done
  case assign =>
    intro l k W R _ hR
    unfold bkE
    generalize cs.getD (N - 1 - k) 0 = x at hR ⊢
    generalize ((N - 1 - k : Nat) : Int) = y at hR ⊢
    gi_wp2
    exact hR
  case body =>
    clear HT T0
    intro l k W hk hz CK
    obtain ⟨x, hxx⟩ : ∃ x, x = cs.getD (N - 1 - k) 0 := ⟨_, rfl⟩
    obtain ⟨L, hL⟩ : ∃ L, L = clm cs (N - k) := ⟨_, rfl⟩
    have hLo : scOk L = true := by rw [hL]; exact clm_ok _ _
    have hLl := ((scOk_iff L).1 hLo).1
    have hxq : Cq x := by rw [hxx]; exact getD_of hq (by unfold Cq; omega) _
    obtain ⟨R, hR⟩ : ∃ R, R = redO (x + 65536 * val L) := ⟨_, rfl⟩
    have hRl : R.length = 16 := by rw [hR]; exact redO_len _
    have hRe : R = clm cs (N - (k + 1)) := by
      rw [hR, hL, hxx, ← clm_step cs (N - (k + 1)) (by omega), show N - (k + 1) + 1 = N - k by omega, show N - 1 - k = N - (k + 1) by omega]
    have hfr := CK.fr
    have hsz := CK.sz
    have hpn := CK.pn
    have hpr := CK.pr
    rw [← hL] at hpn
    have HC := implLonger L x W hLo hxq (hV.kept hfr)
    rw [← hR] at HC
    have HC' : Hid (Calls Tryd.prog 74 #[.agg (I64 L).toArray, .int .i64 x] W fun e w' => e = .returned (.agg (I64 R).toArray) ∧ Below W.heap.size W w') := HC
    have HRe : Hid _ := hRe
    have hil : (Tryd.prog.info? 51).map (·.size) = some (I64 L).toArray.size := by simpa [hLl] using infoM
    have hir : (Tryd.prog.info? 51).map (·.size) = some (I64 R).toArray.size := by simpa [hRl] using infoM
    generalize ((N - 1 - k : Nat) : Int) = y
    rw [← hxx]
    clear hxx hL hR hRe CK HC hxq hLo
    gi_wp2_with (refine wpListIn_load_row rfl 51 _ rfl (w.heap.size + 1) rfl 51 (I64 L).toArray (0, 0) _ hpn Tryd.underlying51 rfl hil ?_)
    refine ⟨trivial, (CallsIn.inRound l (callsIn_wide.2 HC'.out)).mono ?_⟩
    rintro e w3 ⟨rfl, hb3⟩
    have hpn3 := hpn.kept hb3
    have hpr3 := hpr.kept hb3
    have hfr3 := hfr.trans (hb3.mono hfr.size)
    have hsz3 := hb3.size
    have hwz := hfr.size
    have hW3 : Same (fun b => (b = w.heap.size + 2 ∨ ∃ o, a = some ⟨b, o, none⟩) ∨ b = w1.heap.size ∨ b = w1.heap.size + 1) W (w3.setRow (w.heap.size + 1) (I64 R).toArray) := by
      refine ⟨by simpa using hsz3, fun b hb hbl => ?_⟩
      have hne : b ≠ w.heap.size + 1 := by
        rcases hb with (h | ⟨o, h⟩) | h | h
        · omega
        · have := HKb b o h; omega
        · omega
        · omega
      rw [setRow_other w3 (w.heap.size + 1) b _ hne]
      exact hb3.block b hbl
    have hfin : Ck w w1.heap.size N cs (k + 1) (w3.setRow (w.heap.size + 1) (I64 R).toArray) :=
      ⟨by simp; omega, setRow_below hfr3 _ _ (by omega), hpr3.rowOther _ _ (by omega), by rw [← HRe.out]; exact hpn3.row _⟩
    have HF : Hid _ := hfin
    have HS : Hid _ := hW3
    clear hfin hW3 hb3 hpn hpr hfr hfr3 hpr3 HC' HRe
    gi_wp2_with (refine wpListIn_store_row rfl 51 _ _ rfl (w.heap.size + 1) (I64 R).toArray rfl rfl 51 _ hpn3 hir (by simp [hLl, hRl]) (by simp [Value.oneCell']) ?_)
    exact ⟨HF.out, HS.out⟩
  case done =>
    clear HT T0
    intro W CK hD
    obtain ⟨R, hR⟩ : ∃ R, R = redO (val cs) := ⟨_, rfl⟩
    have hRl : R.length = 16 := by rw [hR]; exact redO_len _
    have hpn := CK.pn
    rw [Nat.sub_self, clm_zero, ← hR] at hpn
    have hpr := CK.pr
    have hfr := CK.fr
    have hsz := CK.sz
    have hwz := hfr.size
    have hir : (Tryd.prog.info? 51).map (·.size) = some (I64 R).toArray.size := by simpa [hRl] using infoM
    have h2 := hpr.row (I64 R)
    have hD2 : (W.setRow w.heap.size (I64 R).toArray).heap[w1.heap.size]? = some (.deferred (some [])) := (setRow_other W w.heap.size _ _ (by omega)).trans hD
    have HB : Hid (Below w.heap.size w (W.setRow w.heap.size (I64 R).toArray)) := setRow_below hfr w.heap.size (I64 R).toArray (Nat.le_refl _)
    have HR : Hid (R = redO (val cs)) := hR
    clear CK hR hD
    gi_wp2_with (first
      | (refine wpListIn_load_row rfl 51 _ rfl (w.heap.size + 1) rfl 51 (I64 R).toArray (0, 0) _ hpn Tryd.underlying51 rfl hir ?_)
      | (refine wpListIn_store_row rfl 51 _ _ rfl w.heap.size (I64 R).toArray rfl rfl 51 _ hpr hir (by simp [hRl]) (by simp [Value.oneCell']) ?_))
    refine ⟨by simp, .inl ⟨_, _, rfl, run_takeDeferred hD2, ?_⟩⟩
    refine ⟨_, results_cell_row rfl _ _ w.heap.size 51 (I64 R).toArray (0, 0) _ rfl ((World.putObj_heap_other (by omega)).trans h2) Tryd.underlying51 rfl hir, by rw [HR.out], ?_⟩
    exact HB.out.grown (grownBy_putObj' _ _ _) HB.out.size (fun j e => by cases e; omega)
end Go.Proofs.YtlafcjoccbinaaaDoor
namespace Go.Proofs.YtlafcjoccbinaaaDoor
open Go.RowKit
set_option maxRecDepth 100000

theorem arr_is {W : World} {g : Nat} {t : TypeId} {l : List Int} {n : Nat} (h : Arr W g t (I64 l)) (hl : l.length = n) (hi : ∀ x ∈ l, -9223372036854775808 ≤ x ∧ x ≤ 9223372036854775807) : Is W (some ⟨g, 0, none⟩) n n l :=
  ⟨fun e => by simp at e, hl, Nat.le_refl _, hi, .inr ⟨g, 0, rfl, h.lt, fun j hj => by rw [Nat.zero_add]; exact h.i64 j (by omega)⟩⟩

set_option maxHeartbeats 2000000 in
theorem implMuProd (a b : List Int) (w : World) (ha : scOk a = true) (hb : scOk b = true) (hV : Vr w 0 (I64 OL)) :
    Calls Tryd.prog 45 #[.agg (I64 a).toArray, .agg (I64 b).toArray] w fun e w' => e = .returned (.agg (I64 (redO (val a * val b))).toArray) ∧ Below w.heap.size w w' := by
  obtain ⟨la16, la, va⟩ := (scOk_iff a).1 ha
  obtain ⟨lb16, lb, vb⟩ := (scOk_iff b).1 hb
  have h0w := hV.lt
  have HTM : Hid (∀ Z, Calls Tryd.prog 72 #[.agg (I64 a).toArray, .agg (I64 b).toArray] Z fun e w' => ∃ t, e = .returned (.agg (I64 t).toArray) ∧ Tq a b t 16 0 ∧ Below Z.heap.size Z w') := by
    unfold Hid; intro Z; exact implTimes a b Z la16 lb16 la lb
  obtain ⟨R, hR⟩ : ∃ R, R = redO (val a * val b) := ⟨_, rfl⟩
  have hRl : R.length = 16 := by rw [hR]; exact redO_len _
  rw [← hR]
  have HCL : Hid (∀ t, Tq a b t 16 0 → ∀ (g : Nat) (Z : World), Arr Z g 84 (I64 t) → Vr Z 0 (I64 OL) → Calls Tryd.prog 48 #[.slice (some ⟨g, 0, none⟩) 32 32] Z fun e w' => e = .returned (.agg (I64 R).toArray) ∧ Below Z.heap.size Z w') := by
    unfold Hid; intro t TP g Z hg hZ
    have := implColumns (some ⟨g, 0, none⟩) 32 32 t Z (arr_is hg TP.len (fun x hx => by have := TP.le x hx; omega)) (by omega) (by omega) (tq_cq TP) hZ
    rw [TP.vl, prodAt_end a b la16, ← hR] at this
    exact this
  obtain ⟨W, hW⟩ : ∃ W, W = ((w.alloc (.cells (I64 a).toArray 51)).alloc (.cells (I64 b).toArray 51)).alloc (.cells #[.int .i64 0, .int .i64 0, .int .i64 0, .int .i64 0, .int .i64 0, .int .i64 0, .int .i64 0, .int .i64 0, .int .i64 0, .int .i64 0, .int .i64 0, .int .i64 0, .int .i64 0, .int .i64 0, .int .i64 0, .int .i64 0] 51) := ⟨_, rfl⟩
  have EE : M4 w W a b := by rw [hW]; exact M4.new a b hV
  obtain ⟨A, hA⟩ : ∃ A, A = (I64 a).toArray := ⟨_, rfl⟩
  obtain ⟨B, hB⟩ : ∃ B, B = (I64 b).toArray := ⟨_, rfl⟩
  rw [← hA, ← hB] at hW ⊢
  have hia : (Tryd.prog.info? 49).map (·.size) = some (I64 a).toArray.size := by simpa [la16] using infoL
  have hib : (Tryd.prog.info? 49).map (·.size) = some (I64 b).toArray.size := by simpa [lb16] using infoL
  have hir : (Tryd.prog.info? 51).map (·.size) = some (I64 R).toArray.size := by simpa [hRl] using infoM
  clear hA hB hR la lb hV ha hb va vb
  have E0 := hW ▸ EE
  go_enter Tryd.func45, Tryd.ntmps45
  go_wp2_with (first
    | (refine wpList_load_row rfl 49 _ rfl w.heap.size rfl 51 (I64 a).toArray (0, 0) _ E0.pa Tryd.underlying49 rfl hia ?_)
    | (refine wpList_load_row rfl 49 _ rfl (w.heap.size + 1) rfl 51 (I64 b).toArray (0, 0) _ E0.pb Tryd.underlying49 rfl hib ?_))
  rw [← hW]
  clear hW E0
  refine (HTM.out _).mono ?_
  rintro e w1 ⟨t, rfl, TP, hb1⟩
  replace EE := EE.go hb1
  clear hb1 HTM
  have htl := TP.len
  have hst := HCL.out t TP
  have HS : Hid (∀ (g : Nat) (Z : World), Arr Z g 84 (I64 t) → Vr Z 0 (I64 OL) → Calls Tryd.prog 48 #[.slice (some ⟨g, 0, none⟩) 32 32] Z fun e w' => e = .returned (.agg (I64 R).toArray) ∧ Below Z.heap.size Z w') := hst
  clear hst TP HCL
  have hsz := EE.pr.lt
  have hit : (Tryd.prog.info? 84).map (·.size) = some (I64 t).toArray.size := by simpa [htl] using infoC
  obtain ⟨W2, hW2⟩ : ∃ W2, W2 = w1.alloc (.cells #[.int .i64 0, .int .i64 0, .int .i64 0, .int .i64 0, .int .i64 0, .int .i64 0, .int .i64 0, .int .i64 0, .int .i64 0, .int .i64 0, .int .i64 0, .int .i64 0, .int .i64 0, .int .i64 0, .int .i64 0, .int .i64 0, .int .i64 0, .int .i64 0, .int .i64 0, .int .i64 0, .int .i64 0, .int .i64 0, .int .i64 0, .int .i64 0, .int .i64 0, .int .i64 0, .int .i64 0, .int .i64 0, .int .i64 0, .int .i64 0, .int .i64 0, .int .i64 0] 84) := ⟨_, rfl⟩
  have g5 : Arr W2 w1.heap.size 84 (I64 Z32) := by rw [hW2]; exact Arr.new w1 (I64 Z32) _
  have g2 : Arr W2 (w.heap.size + 2) 51 (I64 Z16) := by rw [hW2]; exact EE.pr.alloc _
  have gv : Vr W2 0 (I64 OL) := by rw [hW2]; exact EE.vr.kept ((Below.refl _ _).alloc (Nat.le_refl _) _)
  have gB : Below w.heap.size w W2 := by rw [hW2]; exact EE.fr.alloc EE.fr.size _
  have h5 := hW2 ▸ g5
  clear EE
  obtain ⟨W3, hW3⟩ : ∃ W3, W3 = W2.setRow w1.heap.size (I64 t).toArray := ⟨_, rfl⟩
  have k5 : Arr W3 w1.heap.size 84 (I64 t) := by rw [hW3]; exact g5.row _
  have k2 : Arr W3 (w.heap.size + 2) 51 (I64 Z16) := by rw [hW3]; exact g2.rowOther _ _ (by omega)
  have kv : Vr W3 0 (I64 OL) := by rw [hW3]; exact gv.rowOther _ (by omega)
  have kB : Below w.heap.size w W3 := by rw [hW3]; exact setRow_below gB _ _ (by omega)
  have HW3 : Hid (W3 = (w1.alloc (.cells #[.int .i64 0, .int .i64 0, .int .i64 0, .int .i64 0, .int .i64 0, .int .i64 0, .int .i64 0, .int .i64 0, .int .i64 0, .int .i64 0, .int .i64 0, .int .i64 0, .int .i64 0, .int .i64 0, .int .i64 0, .int .i64 0, .int .i64 0, .int .i64 0, .int .i64 0, .int .i64 0, .int .i64 0, .int .i64 0, .int .i64 0, .int .i64 0, .int .i64 0, .int .i64 0, .int .i64 0, .int .i64 0, .int .i64 0, .int .i64 0, .int .i64 0, .int .i64 0] 84)).setRow w1.heap.size (I64 t).toArray) := by unfold Hid; rw [hW3, hW2]
  clear g5 g2 gv gB hW3 hW2
  go_wp2_with (refine wpList_store_row rfl 84 _ _ rfl w1.heap.size (I64 t).toArray rfl rfl 84 _ h5 hit (by simp [htl]) (by simp [Value.oneCell']) ?_)
  rw [← HW3.out]
  refine (HS.out _ _ k5 kv).mono ?_
  rintro e w2 ⟨rfl, hb2⟩
  have k3 := k2.kept hb2
  have kB2 := kB.trans (hb2.mono kB.size)
  have h2 := k3.row (I64 R)
  have HB : Hid _ := setRow_below kB2 (w.heap.size + 2) (I64 R).toArray (by omega)
  clear k5 k2 kv kB hb2 kB2 HS HW3 h5
  go_wp2_with (refine wpList_store_row rfl 51 _ _ rfl (w.heap.size + 2) (I64 R).toArray rfl rfl 51 _ k3 hir (by simp [hRl]) (by simp [Value.oneCell']) ?_)
  exact bodyPost_ret (results_cell_row rfl _ _ (w.heap.size + 2) 51 (I64 R).toArray (0, 0) _ rfl h2 Tryd.underlying51 rfl hir) rfl ⟨rfl, HB.out⟩

/-- A slice as a multiplier; it, or none. -/
def scL (xs : List Int) : List Int := if scOk xs = true then xs else Z16
theorem scL_len (xs : List Int) : (scL xs).length = 16 := by
  unfold scL
  split
  · rename_i h; exact ((scOk_iff xs).1 h).1
  · rfl
theorem lmL_lm (xs : List Int) : Lm (lmL xs) := by
  unfold lmL
  split
  · rename_i h; exact ((lmOk_iff xs).1 h).2
  · intro x hx
    have : x = 0 := by simpa using hx
    omega
theorem scOk_lm (l : List Int) : scOk l = (lmOk l && decide (val l < qO)) := rfl
theorem muB_sc (xs : List Int) : muB (lmL xs) (lmOk xs) = scOk xs := by
  unfold muB
  rw [scOk_lm]
  cases h : lmOk xs with
  | false => rfl
  | true =>
    have e : lmL xs = xs := by unfold lmL; rw [if_pos h]
    rw [e]
theorem muL_sc (xs : List Int) : muL (lmL xs) (lmOk xs) = scL xs := by
  unfold muL scL
  rw [muB_sc]
  cases h : scOk xs with
  | false => rfl
  | true =>
    have h2 : lmOk xs = true := by rw [scOk_lm] at h; simp at h; exact h.1
    unfold lmL
    rw [if_pos h2]
/-- multiplierOf of what limbsOf answers. -/
theorem implMuSc (xs : List Int) (w : World) (hV : Vr w 0 (I64 OL)) :
    Calls Tryd.prog 42 #[.agg (I64 (lmL xs)).toArray, .bool (lmOk xs)] w fun e w' => e = .returned (.tuple #[.agg (I64 (scL xs)).toArray, .bool (scOk xs)]) ∧ Below w.heap.size w w' := by
  have := implMuOf (lmL xs) (lmOk xs) w (lmL_len xs) (lmL_lm xs) hV
  rw [muB_sc, muL_sc] at this
  exact this
end Go.Proofs.YtlafcjoccbinaaaDoor

/-
  What is proved here: the contract of the program's ShaEnd, for every value. Where the program's two tables hold what its text lays into them.
-/
import Derived.Test.YtgapfkiceolceaaDoorQ3
import Derived.Test.YtgapfkiceolceaaDoorGzn
import Derived.Test.YtgapfkiceolceaaDoorQ6
import Derived.Test.YtgapfkiceolceaaDoorQ5
import Derived.Test.YtgapfkiceolceaaDoorQ8
namespace Go.Proofs.YtgapfkiceolceaaDoor
set_option maxRecDepth 100000
open Go.RowKit

/-- What ShaEnd answers. -/
def endOf (hs : List Int) (N : Int) (ts : List Int) : List Int := if shaOk hs N ts = true then sumB (allB hs (ts ++ padB N)) else []
theorem endOf_byte (hs : List Int) (N : Int) (ts : List Int) : ∀ y ∈ endOf hs N ts, 0 ≤ y ∧ y < 256 := by
  unfold endOf
  split
  · exact sumB_byte _
  · simp
theorem shaOk_parts {hs : List Int} {N : Int} {ts : List Int} (h : shaOk hs N ts = true) : hs.length = 8 ∧ (∀ x ∈ hs, 0 ≤ x ∧ x < 4294967296) ∧ 0 ≤ N ∧ N ≤ 20000 ∧ (ts.length : Int) = N % 64 := by
  unfold shaOk at h
  simp only [Bool.and_eq_true, decide_eq_true_eq] at h
  obtain ⟨h8, hwd⟩ := (isW_iff hs).1 h.1
  exact ⟨h8, hwd, h.2.1, h.2.2.1, h.2.2.2⟩
theorem endOf_len (hs : List Int) (N : Int) (ts : List Int) : (endOf hs N ts).length ≤ 32 := by
  unfold endOf
  split
  · rename_i h
    rw [sumB_len, show (allB hs (ts ++ padB N)).length = 8 from fld_len (shaOk_parts h).1 _ _]
    exact Nat.le_refl _
  · simp

theorem pdn_pad {n : Nat} {N : Int} (hn : (n : Int) = N % 64) : pdn n N = padB N ∧ zfn n = zn N := by
  have e : zfn n = zn N := by unfold zfn zn; rw [← hn]; simp; omega
  refine ⟨?_, e⟩
  unfold pdn padB
  rw [e]
  congr 2
theorem sum_narrow (hs : List Int) {ts : List Int} {n : Nat} {N : Int} (hl : ts.length = n) (hn : (ts.length : Int) = N % 64) : sumB (fld hs (ts ++ pdn n N) ((n + (zfn n + 9)) / 64)) = sumB (allB hs (ts ++ padB N)) := by
  obtain ⟨e1, e2⟩ := pdn_pad (n := n) (by rw [← hl]; exact hn)
  rw [e1, e2]
  unfold allB
  rw [List.length_append, padB_len, hl]

/-- Where the end stands. -/
structure Ei (w W : World) (G : Nat) (hs : List Int) (aH : Option Addr) (nH cH : Nat) (N : Int) (aT : Option Addr) (nT cT : Nat) (ts : List Int) : Prop where
  fr : Below w.heap.size w W
  p2 : Arr W w.heap.size 27 [.slice aH nH cH, .int .i64 N, .slice aT nT cT]
  ga : Arr W G 65 (U32 hs)
  bt : Bs W aT nT cT ts
  tb : Tabn W
theorem Ei.go {w A B : World} {G : Nat} {hs : List Int} {aH : Option Addr} {nH cH : Nat} {N : Int} {aT : Option Addr} {nT cT : Nat} {ts : List Int} (h : Ei w A G hs aH nH cH N aT nT cT ts) (hb : Below A.heap.size A B) : Ei w B G hs aH nH cH N aT nT cT ts :=
  ⟨h.fr.trans (hb.mono h.fr.size), h.p2.kept hb, h.ga.kept hb, h.bt.below hb, h.tb.kept hb⟩
theorem Ei.all {w W : World} {G : Nat} {hs : List Int} {aH : Option Addr} {nH cH : Nat} {N : Int} {aT : Option Addr} {nT cT : Nat} {ts : List Int} (h : Ei w W G hs aH nH cH N aT nT cT ts) {l0 l1 l2 l3 l4 l5 l6 l7 : Int} (e : [l0, l1, l2, l3, l4, l5, l6, l7] = hs) :
    W.cell? ⟨w.heap.size, 1, none⟩ = some (.int .i64 N) ∧ W.cell? ⟨w.heap.size, 2, none⟩ = some (.slice aT nT cT) ∧ W.cell? ⟨G, 0, none⟩ = some (.int .u32 l0) ∧ W.cell? ⟨G, 1, none⟩ = some (.int .u32 l1) ∧ W.cell? ⟨G, 2, none⟩ = some (.int .u32 l2) ∧ W.cell? ⟨G, 3, none⟩ = some (.int .u32 l3) ∧ W.cell? ⟨G, 4, none⟩ = some (.int .u32 l4) ∧ W.cell? ⟨G, 5, none⟩ = some (.int .u32 l5) ∧ W.cell? ⟨G, 6, none⟩ = some (.int .u32 l6) ∧ W.cell? ⟨G, 7, none⟩ = some (.int .u32 l7) := by
  have g := h.ga
  rw [← e] at g
  exact ⟨h.p2.cell 1, h.p2.cell 2, g.cell 0, g.cell 1, g.cell 2, g.cell 3, g.cell 4, g.cell 5, g.cell 6, g.cell 7⟩

set_option maxHeartbeats 1000000 in
theorem implShaEnd (aH : Option Addr) (nH cH : Nat) (N : Int) (aT : Option Addr) (nT cT : Nat) (hs ts : List Int) (w : World) (hH : Is w aH nH cH hs) (hT : Bs w aT nT cT ts) (ht : Tabs w) :
    Calls Tryd.prog 18 #[shaV aH nH cH N aT nT cT] w fun e w' => ∃ v, e = .returned (.tuple #[v, .bool (shaOk hs N ts)]) ∧ w'.ownsRow w.heap.size 5 1 v (endOf hs N ts).length (U8 (endOf hs N ts)) ∧ Below w.heap.size w w' := by
  have htl := hT.2.1
  obtain ⟨W, hW⟩ : ∃ W, W = w.alloc (.cells #[.slice aH nH cH, .int .i64 N, .slice aT nT cT] 27) := ⟨_, rfl⟩
  have B0 : Below w.heap.size w W := by rw [hW]; exact (Below.refl _ _).alloc (Nat.le_refl _) _
  have A2 : Arr W w.heap.size 27 [.slice aH nH cH, .int .i64 N, .slice aT nT cT] := by rw [hW]; exact Arr.new _ _ _
  go_enter Tryd.func18, Tryd.ntmps18
  go_wp2_with fail
  rw [show w.alloc (.cells #[.slice aH nH cH, .int .i64 N, .slice aT nT cT] 27) = W from hW.symm]
  refine (shaOpen aH nH cH N aT nT cT hs ts _ (hH.below B0) (hT.below B0)).mono ?_
  rintro e w1 ⟨l, rfl, hl8, hleq, hb1⟩
  have B1 := B0.trans (hb1.mono B0.size)
  have C2 := A2.kept hb1
  clear A2 B0 hW hb1
  obtain ⟨q, hq⟩ : ∃ q, q = shaOk hs N ts := ⟨_, rfl⟩
  have HE : Hid (endOf hs N ts = if q = true then sumB (allB hs (ts ++ padB N)) else []) := by unfold Hid endOf; rw [hq]
  have HP : Hid (q = true → hs.length = 8 ∧ (∀ x ∈ hs, 0 ≤ x ∧ x < 4294967296) ∧ 0 ≤ N ∧ N ≤ 20000 ∧ (ts.length : Int) = N % 64) := fun h => shaOk_parts (hq ▸ h)
  rw [← hq]
  rw [← hq] at hleq
  have hq' : q = false ∨ q = true := by cases q <;> simp
  have HQ : Hid _ := hq
  clear hq
  obtain ⟨l0, l1, l2, l3, l4, l5, l6, l7, hle⟩ := list8 hl8
  rw [hle]
  have HLE : Hid _ := hle
  have hsz1 := B1.size
  have hl2 := C2.lt
  have B2 : Below w.heap.size w (w1.alloc (.cells #[.int .u32 l0, .int .u32 l1, .int .u32 l2, .int .u32 l3, .int .u32 l4, .int .u32 l5, .int .u32 l6, .int .u32 l7] 65)) := B1.alloc hsz1 _
  have D2 := C2.alloc (.cells #[.int .u32 l0, .int .u32 l1, .int .u32 l2, .int .u32 l3, .int .u32 l4, .int .u32 l5, .int .u32 l6, .int .u32 l7] 65)
  have DG : Arr (w1.alloc (.cells #[.int .u32 l0, .int .u32 l1, .int .u32 l2, .int .u32 l3, .int .u32 l4, .int .u32 l5, .int .u32 l6, .int .u32 l7] 65)) w1.heap.size 65 (U32 [l0, l1, l2, l3, l4, l5, l6, l7]) := Arr.new _ _ _
  clear hle
  rcases hq' with rfl | rfl
  · clear C2 D2 DG B1
    have HB2 : Hid _ := B2
    clear B2
    go_wp2
    go_ret2
    refine ⟨_, by rw [← HQ.out]; rfl, ?_, HB2.out⟩
    rw [show endOf hs N ts = [] from HE.out]
    exact World.ownsRow_nil _ _ _ _
  obtain ⟨h8, hwd, hN1, hN2, hN3⟩ := HP.out rfl
  have hE : endOf hs N ts = sumB (allB hs (ts ++ padB N)) := HE.out
  have HE' : Hid _ := hE
  have hlh : [l0, l1, l2, l3, l4, l5, l6, l7] = hs := by rw [← HLE.out]; exact hleq rfl
  rw [hlh] at DG
  have HWD : Hid _ := hwd
  have HLH : Hid _ := hlh
  clear hleq HLE hwd hlh HE HP hE
  obtain ⟨W2, hW2⟩ : ∃ W2, W2 = w1.alloc (.cells #[.int .u32 l0, .int .u32 l1, .int .u32 l2, .int .u32 l3, .int .u32 l4, .int .u32 l5, .int .u32 l6, .int .u32 l7] 65) := ⟨_, rfl⟩
  rw [← hW2] at B2 D2 DG
  have hnT : nT ≤ 20000 := by omega
  have hsum : sumB (fld hs (ts ++ pdn nT N) ((nT + (zfn nT + 9)) / 64)) = endOf hs N ts := by rw [HE'.out]; exact sum_narrow hs htl hN3
  have hend : (endOf hs N ts).length = 32 := by rw [HE'.out, sumB_len, show (allB hs (ts ++ padB N)).length = 8 from fld_len h8 _ _]
  have HS : Hid (∀ rb Z, Bs Z aT nT cT ts → Arr Z rb 111 (U32 KS) → Calls Tryd.prog 60 #[.agg #[.int .u32 l0, .int .u32 l1, .int .u32 l2, .int .u32 l3, .int .u32 l4, .int .u32 l5, .int .u32 l6, .int .u32 l7], .slice aT nT cT, .int .i64 N, rulesVn rb] Z fun e w' => ∃ v, e = .returned v ∧ w'.ownsRow Z.heap.size 5 1 v 32 (U8 (endOf hs N ts)) ∧ Below Z.heap.size Z w') := by
    unfold Hid
    intro rb Z hz hr
    have := sumCn hs aT nT cT rb ts N Z h8 HWD.out hz hN1 hN2 hnT hr
    rw [hsum] at this
    rw [show (U32 hs).toArray = #[.int .u32 l0, .int .u32 l1, .int .u32 l2, .int .u32 l3, .int .u32 l4, .int .u32 l5, .int .u32 l6, .int .u32 l7] by rw [← HLH.out]; rfl] at this
    exact this
  have EI : Ei w W2.drew w1.heap.size hs aH nH cH N aT nT cT ts := ⟨B2.drew, D2.drew, DG.drew, (hT.below B2).below (Below.refl _ _).drew, (ht.below B2).below (Below.refl _ _).drew⟩
  have hEH : Hid _ := hend
  have hz2 := DG.lt
  have hs2 := B2.size
  clear hsum hend hz2 D2 DG B2 B1
  have f0 := C2.cell 0
  have f1 := C2.cell 1
  have f2 := C2.cell 2
  simp at f0 f1 f2
  go_wp2
  rw [← hW2]
  clear hW2 C2 f0 f1 f2
  go_region_held3 (fun W => W.cell? ⟨w.heap.size, 1, none⟩ = some (.int .i64 N) ∧ W.cell? ⟨w.heap.size, 2, none⟩ = some (.slice aT nT cT) ∧ W.cell? ⟨w1.heap.size, 0, none⟩ = some (.int .u32 l0) ∧ W.cell? ⟨w1.heap.size, 1, none⟩ = some (.int .u32 l1) ∧ W.cell? ⟨w1.heap.size, 2, none⟩ = some (.int .u32 l2) ∧ W.cell? ⟨w1.heap.size, 3, none⟩ = some (.int .u32 l3) ∧ W.cell? ⟨w1.heap.size, 4, none⟩ = some (.int .u32 l4) ∧ W.cell? ⟨w1.heap.size, 5, none⟩ = some (.int .u32 l5) ∧ W.cell? ⟨w1.heap.size, 6, none⟩ = some (.int .u32 l6) ∧ W.cell? ⟨w1.heap.size, 7, none⟩ = some (.int .u32 l7))
    (exact EI.all HLH.out)
    ((first
      | (go_at_call 60; refine (HS.out rb _ EI.bt hrb).mono ?_; rintro e w5 ⟨v5, rfl, ho5, hb5⟩; have hs5 := EI.fr.size; replace EI := EI.go hb5)
      | (go_at_call 57; refine (rulesCn _ EI.tb).mono ?_; rintro e wr ⟨rb, rfl, hrb, hge, hbr⟩; replace EI := EI.go hbr)))
  have O5 : Hid (w5.ownsRow w.heap.size 5 1 v5 (endOf hs N ts).length (U8 (endOf hs N ts))) := by
    unfold Hid
    rw [hEH.out]
    exact own_base ho5 hs5
  have B5 := EI.fr
  clear ho5 hb5 EI hrb hge HS
  go_wp2
  go_ret2
  exact ⟨_, by rw [← HQ.out]; rfl, O5.out, B5⟩
end Go.Proofs.YtgapfkiceolceaaDoor

/-
  What is proved here: the contract of the program's ShaAdd, for every value and every slice. Where the program's two tables hold what its text lays into them; contracts of two helpers of the exact laws (mark a slice of ints, look whether the marks are held), for every slice of at most 2^21 ints; plain facts on four rows (three of ints, one of bytes) that a call owns, apart from each other, and how they stay while one is marked or newer memory is made; no condition; an append onto a row of bytes that the call itself owns, as a step of a region that draws its order.
-/
import Derived.Test.YtofflhhlacdgfaaDoorJM10
import Derived.Test.YtofflhhlacdgfaaDoorJM12
import Derived.Test.YtofflhhlacdgfaaDoorJM5
import Derived.Test.YtofflhhlacdgfaaDoorJM11
import Derived.Test.YtofflhhlacdgfaaDoorJM1
import Derived.Deep.AppendLies
namespace Go.Proofs.YtofflhhlacdgfaaDoor
set_option maxRecDepth 100000
open Go.RowKit

/-- What ShaAdd answers. -/
def addOk (hs : List Int) (N : Int) (ts bs : List Int) : Bool := shaOk hs N ts && decide ((bs.length : Int) ≤ 20000 - N)
def addH (hs : List Int) (N : Int) (ts bs : List Int) : List Int := if addOk hs N ts bs = true then allB hs (ts ++ bs) else []
def addN (hs : List Int) (N : Int) (ts bs : List Int) : Int := if addOk hs N ts bs = true then N + bs.length else 0
def addT (hs : List Int) (N : Int) (ts bs : List Int) : List Int := if addOk hs N ts bs = true then restB (ts ++ bs) else []

/-- A new Sha. -/
def ShaIs (w W : World) (v : Value) (hs : List Int) (N : Int) (ts : List Int) : Prop :=
  ∃ aH cH aT cT, v = shaV aH hs.length cH N aT ts.length cT ∧ OwnSha w W aH hs.length cH aT ts.length cT hs ts

theorem shaIs_nil (w W : World) : ShaIs w W (.agg #[.slice none 0 0, .int .i64 0, .slice none 0 0]) [] 0 [] :=
  ⟨none, 0, none, 0, rfl, World.ownsRow_nil _ _ _ _, World.ownsRow_nil _ _ _ _, fun k hk => by cases hk⟩

/-- Where region 5 stands. -/
structure Ai (w W : World) (G : Nat) (A : List Int) (a : Option Addr) (c : Nat) (R : List Int) (vs : List Value) : Prop where
  fr : Below w.heap.size w W
  p2 : Arr W w.heap.size 95 vs
  p4 : Arr W (w.heap.size + 1) 95 [.slice none 0 0, .int .i64 0, .slice none 0 0]
  ga : Arr W G 134 (U32 A)
  bs : Bs W a R.length c R
theorem Ai.go {w W W' : World} {G : Nat} {A : List Int} {a : Option Addr} {c : Nat} {R : List Int} {vs : List Value} (h : Ai w W G A a c R vs) (hb : Below W.heap.size W W') : Ai w W' G A a c R vs :=
  ⟨h.fr.trans (hb.mono h.fr.size), h.p2.kept hb, h.p4.kept hb, h.ga.kept hb, h.bs.below hb⟩

theorem Ai.all {w W : World} {G : Nat} {k0 k1 k2 k3 k4 k5 k6 k7 : Int} {a : Option Addr} {c : Nat} {R : List Int} {x y : Value} {N : Int} (h : Ai w W G [k0, k1, k2, k3, k4, k5, k6, k7] a c R [x, .int .i64 N, y]) :
    W.cell? ⟨w.heap.size, 1, none⟩ = some (.int .i64 N) ∧ W.cell? ⟨G, 0, none⟩ = some (.int .u32 k0) ∧ W.cell? ⟨G, 1, none⟩ = some (.int .u32 k1) ∧ W.cell? ⟨G, 2, none⟩ = some (.int .u32 k2) ∧ W.cell? ⟨G, 3, none⟩ = some (.int .u32 k3) ∧ W.cell? ⟨G, 4, none⟩ = some (.int .u32 k4) ∧ W.cell? ⟨G, 5, none⟩ = some (.int .u32 k5) ∧ W.cell? ⟨G, 6, none⟩ = some (.int .u32 k6) ∧ W.cell? ⟨G, 7, none⟩ = some (.int .u32 k7) :=
  ⟨h.p2.cell 1, h.ga.cell 0, h.ga.cell 1, h.ga.cell 2, h.ga.cell 3, h.ga.cell 4, h.ga.cell 5, h.ga.cell 6, h.ga.cell 7⟩
theorem Ai.n3 {w W : World} {G : Nat} {k0 k1 k2 k3 k4 k5 k6 k7 : Int} {a : Option Addr} {c : Nat} {R : List Int} {x y : Value} {N : Int} (h : Ai w W G [k0, k1, k2, k3, k4, k5, k6, k7] a c R [x, .int .i64 N, y]) (hG : G ≠ w.heap.size + 1) (v0 v1 v2 : Value) :
    (((W.setCell ⟨w.heap.size + 1, 0, none⟩ v0).setCell ⟨w.heap.size + 1, 1, none⟩ v1).setCell ⟨w.heap.size + 1, 2, none⟩ v2).cell? ⟨w.heap.size, 1, none⟩ = some (.int .i64 N) ∧ (((W.setCell ⟨w.heap.size + 1, 0, none⟩ v0).setCell ⟨w.heap.size + 1, 1, none⟩ v1).setCell ⟨w.heap.size + 1, 2, none⟩ v2).cell? ⟨G, 0, none⟩ = some (.int .u32 k0) ∧ (((W.setCell ⟨w.heap.size + 1, 0, none⟩ v0).setCell ⟨w.heap.size + 1, 1, none⟩ v1).setCell ⟨w.heap.size + 1, 2, none⟩ v2).cell? ⟨G, 1, none⟩ = some (.int .u32 k1) ∧ (((W.setCell ⟨w.heap.size + 1, 0, none⟩ v0).setCell ⟨w.heap.size + 1, 1, none⟩ v1).setCell ⟨w.heap.size + 1, 2, none⟩ v2).cell? ⟨G, 2, none⟩ = some (.int .u32 k2) ∧ (((W.setCell ⟨w.heap.size + 1, 0, none⟩ v0).setCell ⟨w.heap.size + 1, 1, none⟩ v1).setCell ⟨w.heap.size + 1, 2, none⟩ v2).cell? ⟨G, 3, none⟩ = some (.int .u32 k3) ∧ (((W.setCell ⟨w.heap.size + 1, 0, none⟩ v0).setCell ⟨w.heap.size + 1, 1, none⟩ v1).setCell ⟨w.heap.size + 1, 2, none⟩ v2).cell? ⟨G, 4, none⟩ = some (.int .u32 k4) ∧ (((W.setCell ⟨w.heap.size + 1, 0, none⟩ v0).setCell ⟨w.heap.size + 1, 1, none⟩ v1).setCell ⟨w.heap.size + 1, 2, none⟩ v2).cell? ⟨G, 5, none⟩ = some (.int .u32 k5) ∧ (((W.setCell ⟨w.heap.size + 1, 0, none⟩ v0).setCell ⟨w.heap.size + 1, 1, none⟩ v1).setCell ⟨w.heap.size + 1, 2, none⟩ v2).cell? ⟨G, 6, none⟩ = some (.int .u32 k6) ∧ (((W.setCell ⟨w.heap.size + 1, 0, none⟩ v0).setCell ⟨w.heap.size + 1, 1, none⟩ v1).setCell ⟨w.heap.size + 1, 2, none⟩ v2).cell? ⟨G, 7, none⟩ = some (.int .u32 k7) := by
  have p := ((h.p2.other ⟨w.heap.size + 1, 0, none⟩ v0 (by simp)).other ⟨w.heap.size + 1, 1, none⟩ v1 (by simp)).other ⟨w.heap.size + 1, 2, none⟩ v2 (by simp)
  have q := ((h.ga.other ⟨w.heap.size + 1, 0, none⟩ v0 hG).other ⟨w.heap.size + 1, 1, none⟩ v1 hG).other ⟨w.heap.size + 1, 2, none⟩ v2 hG
  exact ⟨p.cell 1, q.cell 0, q.cell 1, q.cell 2, q.cell 3, q.cell 4, q.cell 5, q.cell 6, q.cell 7⟩

theorem drop_byte {l : List Int} (h : ∀ x ∈ l, 0 ≤ x ∧ x < 256) : ∀ x ∈ restB l, 0 ≤ x ∧ x < 256 := fun x hx => h x (List.mem_of_mem_drop hx)
theorem restB_len (l : List Int) : (restB l).length ≤ l.length := by unfold restB; simp

set_option maxHeartbeats 400000 in
theorem implShaAdd (aH : Option Addr) (nH cH : Nat) (N : Int) (aT : Option Addr) (nT cT : Nat) (hs ts : List Int) (ab : Option Addr) (nb cb : Nat) (bs : List Int) (w : World) (hH : Is w aH nH cH hs) (hT : Bs w aT nT cT ts) (hB : Bs w ab nb cb bs) (ht : Tabs w) :
    Calls Tryd.prog 80 #[shaV aH nH cH N aT nT cT, .slice ab nb cb] w fun e w' => ∃ v, e = .returned (.tuple #[v, .bool (addOk hs N ts bs)]) ∧ ShaIs w w' v (addH hs N ts bs) (addN hs N ts bs) (addT hs N ts bs) ∧ Below w.heap.size w w' := by
  have htl := hT.2.1
  have hbl := hB.2.1
  obtain ⟨W, hW⟩ : ∃ W, W = (w.alloc (.cells #[.slice aH nH cH, .int .i64 N, .slice aT nT cT] 95)).alloc (.cells #[.slice none 0 0, .int .i64 0, .slice none 0 0] 95) := ⟨_, rfl⟩
  have B0 : Below w.heap.size w W := by rw [hW]; exact ((Below.refl _ _).alloc (Nat.le_refl _) _).alloc (by simp) _
  have A2 : Arr W w.heap.size 95 [.slice aH nH cH, .int .i64 N, .slice aT nT cT] := by rw [hW]; exact (Arr.new _ _ _).alloc _
  have A4 : Arr W (w.heap.size + 1) 95 [.slice none 0 0, .int .i64 0, .slice none 0 0] := by
    rw [hW]
    have := Arr.new (w.alloc (.cells #[.slice aH nH cH, .int .i64 N, .slice aT nT cT] 95)) [.slice none 0 0, .int .i64 0, .slice none 0 0] 95
    rw [show (w.alloc (.cells #[.slice aH nH cH, .int .i64 N, .slice aT nT cT] 95)).heap.size = w.heap.size + 1 by simp] at this
    exact this
  go_enter Tryd.func80, Tryd.ntmps80
  go_wp2_with fail
  rw [show (w.alloc (.cells #[.slice aH nH cH, .int .i64 N, .slice aT nT cT] 95)).alloc (.cells #[.slice none 0 0, .int .i64 0, .slice none 0 0] 95) = W from hW.symm]
  refine (shaOpen aH nH cH N aT nT cT hs ts _ (hH.below B0) (hT.below B0)).mono ?_
  rintro e w1 ⟨l, rfl, hl8, hleq, hb1⟩
  have B1 := B0.trans (hb1.mono B0.size)
  have C2 := A2.kept hb1
  have C4 := A4.kept hb1
  clear A2 A4 B0 hW hb1
  obtain ⟨q, hq⟩ : ∃ q, q = shaOk hs N ts := ⟨_, rfl⟩
  rw [← hq]
  rw [← hq] at hleq
  have hq' : q = false ∨ q = true := by cases q <;> simp
  have HQ : Hid _ := hq
  clear hq
  obtain ⟨l0, l1, l2, l3, l4, l5, l6, l7, hle⟩ := list8 hl8
  rw [hle]
  have HLE : Hid _ := hle
  have hsz1 := B1.size
  have hl2 := C2.lt
  have hl4 := C4.lt
  have B2 : Below w.heap.size w (w1.alloc (.cells #[.int .u32 l0, .int .u32 l1, .int .u32 l2, .int .u32 l3, .int .u32 l4, .int .u32 l5, .int .u32 l6, .int .u32 l7] 134)) := B1.alloc hsz1 _
  have D2 := C2.alloc (.cells #[.int .u32 l0, .int .u32 l1, .int .u32 l2, .int .u32 l3, .int .u32 l4, .int .u32 l5, .int .u32 l6, .int .u32 l7] 134)
  have D4 := C4.alloc (.cells #[.int .u32 l0, .int .u32 l1, .int .u32 l2, .int .u32 l3, .int .u32 l4, .int .u32 l5, .int .u32 l6, .int .u32 l7] 134)
  have DG : Arr (w1.alloc (.cells #[.int .u32 l0, .int .u32 l1, .int .u32 l2, .int .u32 l3, .int .u32 l4, .int .u32 l5, .int .u32 l6, .int .u32 l7] 134)) w1.heap.size 134 (U32 [l0, l1, l2, l3, l4, l5, l6, l7]) := Arr.new _ _ _
  have e1 := C2.cell 1
  have e2 := C2.cell 2
  have f0 := C4.cell 0
  have f1 := C4.cell 1
  have f2 := C4.cell 2
  have ff := C4.frozen
  simp at e1 e2 f0 f1 f2
  have no : ∀ v0 v1 v2, Arr ((((w1.setCell ⟨w.heap.size + 1, 0, none⟩ v0).setCell ⟨w.heap.size + 1, 1, none⟩ v1).setCell ⟨w.heap.size + 1, 2, none⟩ v2).alloc (.cells #[.int .u32 l0, .int .u32 l1, .int .u32 l2, .int .u32 l3, .int .u32 l4, .int .u32 l5, .int .u32 l6, .int .u32 l7] 134)) (w.heap.size + 1) 95 [v0, v1, v2] := fun v0 v1 v2 => (((C4.set 0 v0).set 1 v1).set 2 v2).alloc _
  have nb' : ∀ v0 v1 v2, Below w.heap.size w ((((w1.setCell ⟨w.heap.size + 1, 0, none⟩ v0).setCell ⟨w.heap.size + 1, 1, none⟩ v1).setCell ⟨w.heap.size + 1, 2, none⟩ v2).alloc (.cells #[.int .u32 l0, .int .u32 l1, .int .u32 l2, .int .u32 l3, .int .u32 l4, .int .u32 l5, .int .u32 l6, .int .u32 l7] 134)) := fun v0 v1 v2 =>
    (((B1.setCell (p := ⟨w.heap.size + 1, 0, none⟩) (by simp) v0).setCell (p := ⟨w.heap.size + 1, 1, none⟩) (by simp) v1).setCell (p := ⟨w.heap.size + 1, 2, none⟩) (by simp) v2).alloc (by simpa using hsz1) _
  have NO : Hid _ := no
  have NB : Hid _ := nb'
  clear no nb' hle C2 C4
  have HSZ : (Tryd.prog.info? 95).map (·.size) = some 3 := by kernel_rfl
  rcases hq' with rfl | rfl
  · have ho : addOk hs N ts bs = false := by unfold addOk; rw [← HQ.out]; rfl
    have HO : Hid _ := ho
    clear ho
    go_wp2
    refine bodyPost_ret (results_row_tmp (v := .bool false) rfl rfl rfl (NO.out _ _ _) Tryd.underlying95 rfl HSZ) rfl ⟨_, by rw [HO.out], ?_, NB.out _ _ _⟩
    unfold addH addN addT
    rw [HO.out]
    exact shaIs_nil _ _
  by_cases hgt : 20000 - N < (nb : Int)
  · have ho : addOk hs N ts bs = false := by unfold addOk; rw [← HQ.out]; simp; omega
    have HO : Hid _ := ho
    clear ho
    have hN := HQ.out
    have hN0 : 0 ≤ N ∧ N ≤ 20000 := by
      unfold shaOk at hN
      simp only [Bool.true_eq, Bool.and_eq_true, decide_eq_true_eq] at hN
      exact ⟨hN.2.1, hN.2.2.1⟩
    obtain ⟨hN1, hN2⟩ := hN0
    clear hN
    go_wp2
    refine bodyPost_ret (results_row_tmp (v := .bool false) rfl rfl rfl (NO.out _ _ _) Tryd.underlying95 rfl HSZ) rfl ⟨_, by rw [HO.out], ?_, NB.out _ _ _⟩
    unfold addH addN addT
    rw [HO.out]
    exact shaIs_nil _ _
  have ho : addOk hs N ts bs = true := by unfold addOk; rw [← HQ.out]; simp; omega
  have HO : Hid _ := ho
  obtain ⟨hisW, hN1, hN2, hN3⟩ : isW hs = true ∧ 0 ≤ N ∧ N ≤ 20000 ∧ (ts.length : Int) = N % 64 := by
    have hN := HQ.out
    unfold shaOk at hN
    simp only [Bool.true_eq, Bool.and_eq_true, decide_eq_true_eq] at hN
    exact ⟨hN.1, hN.2.1, hN.2.2.1, hN.2.2.2⟩
  obtain ⟨h8, hwd⟩ := (isW_iff hs).1 hisW
  have hlh : [l0, l1, l2, l3, l4, l5, l6, l7] = hs := by rw [← HLE.out]; exact hleq rfl
  rw [hlh] at DG
  have HWD : Hid _ := hwd
  clear ho hisW hleq HLE hwd NO NB hlh
  have HTB : Hid _ := hT.2.2.2.1
  have HBB : Hid _ := hB.2.2.2.1
  obtain ⟨W2, hW2⟩ : ∃ W2, W2 = (w1.alloc (.cells #[.int .u32 l0, .int .u32 l1, .int .u32 l2, .int .u32 l3, .int .u32 l4, .int .u32 l5, .int .u32 l6, .int .u32 l7] 134)).alloc (.cells #[.slice aT nT cT, .slice ab nb cb] 22) := ⟨_, rfl⟩
  have B3 : Below w.heap.size w W2 := by rw [hW2]; exact B2.alloc (by simp; omega) _
  have E2 : Arr W2 w.heap.size 95 [.slice aH nH cH, .int .i64 N, .slice aT nT cT] := by rw [hW2]; exact D2.alloc _
  have E4 : Arr W2 (w.heap.size + 1) 95 [.slice none 0 0, .int .i64 0, .slice none 0 0] := by rw [hW2]; exact D4.alloc _
  have EG : Arr W2 w1.heap.size 134 (U32 hs) := by rw [hW2]; exact DG.alloc _
  have EQ : Arr W2 (w1.heap.size + 1) 22 [.slice aT nT cT, .slice ab nb cb] := by
    rw [hW2]
    have := Arr.new (w1.alloc (.cells #[.int .u32 l0, .int .u32 l1, .int .u32 l2, .int .u32 l3, .int .u32 l4, .int .u32 l5, .int .u32 l6, .int .u32 l7] 134)) [.slice aT nT cT, .slice ab nb cb] 22
    rw [show (w1.alloc (.cells #[.int .u32 l0, .int .u32 l1, .int .u32 l2, .int .u32 l3, .int .u32 l4, .int .u32 l5, .int .u32 l6, .int .u32 l7] 134)).heap.size = w1.heap.size + 1 by simp] at this
    exact this
  clear D2 D4 DG B2
  go_wp2_with fail
  rw [show (w1.alloc (.cells #[.int .u32 l0, .int .u32 l1, .int .u32 l2, .int .u32 l3, .int .u32 l4, .int .u32 l5, .int .u32 l6, .int .u32 l7] 134)).alloc (.cells #[.slice aT nT cT, .slice ab nb cb] 22) = W2 from hW2.symm]
  refine (concat2 (w1.heap.size + 1) aT ab nT cT nb cb ts bs _ EQ.lt (EQ.cell 0) (EQ.cell 1) (hT.below B3) (hB.below B3) (by omega) (by omega)).mono ?_
  rintro e w3 ⟨v3, rfl, ho3, hb3⟩
  have hby3 : ∀ x ∈ ts ++ bs, 0 ≤ x ∧ x < 256 := fun x hx => by
    rcases List.mem_append.1 hx with h | h
    · exact HTB.out x h
    · exact HBB.out x h
  obtain ⟨a3, c3, rfl, _, hx3⟩ := Bs.own ho3 hby3
  have B4 := B3.trans (hb3.mono B3.size)
  have F2 := E2.kept hb3
  have F4 := E4.kept hb3
  have FG := EG.kept hb3
  have hoff : Off a3 w1.heap.size := by
    intro b o s he hbe
    subst he
    have hsh := (own_shape ho3).2
    rcases hsh with ⟨h, _⟩ | ⟨g', cap', h, hg', _⟩
    · cases h
    · cases h
      have := EG.lt
      omega
  clear E2 E4 EG EQ hW2 B3 hb3 ho3
  go_wp2_with fail
  refine (rulesCn _ (ht.below B4)).mono ?_
  rintro e wr ⟨rb, rfl, hrb, hge, hbr⟩
  replace F2 := F2.kept hbr
  replace F4 := F4.kept hbr
  have hgl := FG.lt
  replace FG := FG.kept hbr
  replace hx3 := hx3.below hbr
  replace B4 := B4.trans (hbr.mono B4.size)
  clear hbr
  go_wp2_with fail
  refine (takeBlocksCn w1.heap.size hs a3 (nT + nb) c3 rb (ts ++ bs) _ FG h8 hx3 hoff hrb (by omega)).mono ?_
  rintro e w4 ⟨a4, c4, rfl, hx4, _, GA, hg4⟩
  have hlab : (ts ++ bs).length = nT + nb := by simp [htl, hbl]
  have eA : fld hs (ts ++ bs) ((nT + nb) / 64) = allB hs (ts ++ bs) := by unfold allB; rw [hlab]
  have eR : (ts ++ bs).drop (64 * ((nT + nb) / 64)) = restB (ts ++ bs) := by unfold restB; rw [hlab]
  have eL : (nT + nb) % 64 = (restB (ts ++ bs)).length := by unfold restB; simp [htl, hbl]; omega
  rw [eA] at GA
  rw [eR, eL] at hx4
  rw [eL]
  clear eA eR eL hlab
  have B5 : Below w.heap.size w w4 := B4.grown hg4 B4.size (fun j hj => by cases hj; omega)
  have AI : Ai w w4 w1.heap.size (allB hs (ts ++ bs)) a4 c4 (restB (ts ++ bs)) [.slice aH nH cH, .int .i64 N, .slice aT nT cT] :=
    ⟨B5, by unfold Arr; rw [hg4.block _ F2.lt (fun e => by have := Option.some.inj e; omega)]; exact F2, by unfold Arr; rw [hg4.block _ F4.lt (fun e => by have := Option.some.inj e; omega)]; exact F4, GA, hx4⟩
  clear B4 F2 F4 FG hx3 hoff hx4 GA hg4 B5 B1 hrb hgl hge
  have hRL : (restB (ts ++ bs)).length ≤ 2098176 := by have := restB_len (ts ++ bs); simp at this; omega
  have HRB : Hid _ := drop_byte hby3
  have hAL : (allB hs (ts ++ bs)).length = 8 := fld_len h8 _ _
  have HAW : Hid (∀ x ∈ allB hs (ts ++ bs), 0 ≤ x ∧ x < 4294967296) := fld_word HWD.out _ _
  have eH : addH hs N ts bs = allB hs (ts ++ bs) := by unfold addH; rw [HO.out]; rfl
  have eN : addN hs N ts bs = N + bs.length := by unfold addN; rw [HO.out]; rfl
  have eT : addT hs N ts bs = restB (ts ++ bs) := by unfold addT; rw [HO.out]; rfl
  have EH : Hid _ := eH
  have EN : Hid _ := eN
  have ET : Hid _ := eT
  generalize allB hs (ts ++ bs) = A at AI hAL HAW EH
  generalize restB (ts ++ bs) = R at AI hRL HRB ET ⊢
  obtain ⟨rl, hrl⟩ : ∃ rl, rl = R.length := ⟨_, rfl⟩
  rw [← hrl]
  have hrl2 : rl ≤ 2098176 := by rw [hrl]; exact hRL
  have HRL : Hid _ := hrl
  clear hrl hby3 eH eN eT
  have AI' := AI.go (Below.refl _ _).drew
  obtain ⟨k0, k1, k2, k3, k4, k5, k6, k7, hA8⟩ := list8 hAL
  have HAW8 : Hid (∀ x ∈ [k0, k1, k2, k3, k4, k5, k6, k7], 0 ≤ x ∧ x < 4294967296) := by unfold Hid; rw [← hA8]; exact HAW.out
  have HA8 : Hid _ := hA8
  rw [hA8] at AI'
  have e1' := AI.p2.cell 1
  simp at e1'
  clear e1 e2 f0 f1 f2 ff AI
  have f0 := AI'.p4.cell 0
  have f1 := AI'.p4.cell 1
  have f2 := AI'.p4.cell 2
  have ff := AI'.p4.frozen
  simp at f0 f1 f2
  have hwr : IntKind.i64.wrap (N + (nb : Int)) = N + (nb : Int) := by rw [IntKind.wrap_i64]; omega
  have hg1 : w1.heap.size ≠ w.heap.size + 1 := by omega
  go_wp2
  go_region_held3 (fun W => W.cell? ⟨w.heap.size, 1, none⟩ = some (.int .i64 N) ∧ W.cell? ⟨w1.heap.size, 0, none⟩ = some (.int .u32 k0) ∧ W.cell? ⟨w1.heap.size, 1, none⟩ = some (.int .u32 k1) ∧ W.cell? ⟨w1.heap.size, 2, none⟩ = some (.int .u32 k2) ∧ W.cell? ⟨w1.heap.size, 3, none⟩ = some (.int .u32 k3) ∧ W.cell? ⟨w1.heap.size, 4, none⟩ = some (.int .u32 k4) ∧ W.cell? ⟨w1.heap.size, 5, none⟩ = some (.int .u32 k5) ∧ W.cell? ⟨w1.heap.size, 6, none⟩ = some (.int .u32 k6) ∧ W.cell? ⟨w1.heap.size, 7, none⟩ = some (.int .u32 k7)) (first | exact AI'.all | exact AI'.n3 hg1 _ _ _)
    ((first
      | (go_at_call 117; refine (numbersC8 k0 k1 k2 k3 k4 k5 k6 k7 _ HAW8.out).mono ?_; rintro e wN ⟨vN, rfl, hoN, hbN⟩; obtain ⟨aN, cN, rfl, _, _⟩ := Is.own hoN (words_int HAW8.out); have sN := AI'.fr.size; have tN := AI'.p4.lt; replace AI' := AI'.go hbN; (try (have dd := (apart_of hoC hoN (Nat.le_refl _)).symm; replace hoC := own_below hoC hbN)); replace f0 := AI'.p4.cell 0; replace f1 := AI'.p4.cell 1; replace f2 := AI'.p4.cell 2; replace ff := AI'.p4.frozen; simp at f0 f1 f2)
      | (go_at_call 84; refine (cloneB a4 rl c4 R _ (by rw [HRL.out]; exact AI'.bs) (by omega)).mono ?_; rintro e wC ⟨vC, rfl, hoC, hbC⟩; obtain ⟨aC, cC, rfl, _, _⟩ := Bs.own hoC HRB.out; have sC := AI'.fr.size; have tC := AI'.p4.lt; replace AI' := AI'.go hbC; (try (have dd := apart_of hoN hoC (Nat.le_refl _); replace hoN := own_below hoN hbC)); replace f0 := AI'.p4.cell 0; replace f1 := AI'.p4.cell 1; replace f2 := AI'.p4.cell 2; replace ff := AI'.p4.frozen; simp at f0 f1 f2)))
  all_goals
    have p4' := ((AI'.p4.set 0 (.slice aN 8 cN)).set 1 (.int .i64 (N + (nb : Int)))).set 2 (.slice aC rl cC)
    have fr' := ((AI'.fr.setCell (p := ⟨w.heap.size + 1, 0, none⟩) (by simp) (.slice aN 8 cN)).setCell (p := ⟨w.heap.size + 1, 1, none⟩) (by simp) (.int .i64 (N + (nb : Int)))).setCell (p := ⟨w.heap.size + 1, 2, none⟩) (by simp) (.slice aC rl cC)
    have oN := own_base (own_other (own_other (own_other hoN ⟨w.heap.size + 1, 0, none⟩ (.slice aN 8 cN) tN) ⟨w.heap.size + 1, 1, none⟩ (.int .i64 (N + (nb : Int))) tN) ⟨w.heap.size + 1, 2, none⟩ (.slice aC rl cC) tN) sN
    have oC := own_base (own_other (own_other (own_other hoC ⟨w.heap.size + 1, 0, none⟩ (.slice aN 8 cN) tC) ⟨w.heap.size + 1, 1, none⟩ (.int .i64 (N + (nb : Int))) tC) ⟨w.heap.size + 1, 2, none⟩ (.slice aC rl cC) tC) sC
    have P4 : Hid _ := p4'
    have FR : Hid _ := fr'
    have ON : Hid _ := oN
    have OC : Hid _ := oC
    clear p4' fr' oN oC hoN hoC AI' f0 f1 f2 ff
    go_wp2
    refine bodyPost_ret (results_row_tmp (v := .bool true) (cs := [.slice aN 8 cN, .int .i64 (N + (nb : Int)), .slice aC rl cC]) rfl rfl rfl P4.out Tryd.underlying95 rfl HSZ) rfl ⟨_, by rw [HO.out], ?_, FR.out⟩
    rw [EH.out, EN.out, ET.out]
    refine ⟨aN, cN, aC, cC, ?_, ?_⟩
    · rw [hAL, ← HRL.out, hbl]
    · rw [hAL, ← HRL.out, HA8.out]; exact ⟨ON.out, OC.out, dd⟩
end Go.Proofs.YtofflhhlacdgfaaDoor
namespace Go.Proofs.YtofflhhlacdgfaaDoor
open Go.RowKit



/-- The marks: k0, k0 + 1, ... -/
def marksI (k0 : Int) (n : Nat) : List Int := (List.range n).map (fun j : Nat => (k0 + (j : Int)))
theorem marksI_len (k0 : Int) (n : Nat) : (marksI k0 n).length = n := by simp [marksI]
theorem marksI_get (k0 : Int) (n k : Nat) (h : k < n) : (marksI k0 n).getD k 0 = (k0 + (k : Int)) := by simp [marksI, h]
theorem marksI_int (k0 : Int) (n : Nat) (h0 : 0 ≤ k0) (h1 : k0 ≤ 10000000) (hn : n ≤ 2097152) : ∀ x ∈ marksI k0 n, -9223372036854775808 ≤ x ∧ x ≤ 9223372036854775807 := by
  intro x hx; simp only [marksI, List.mem_map, List.mem_range] at hx; obtain ⟨j, hj, rfl⟩ := hx; omega
theorem set_marksI (xs : List Int) (k0 : Int) (n k : Nat) (h : k < n) (hn : xs.length = n) :
    (I64 (marksI k0 k ++ xs.drop k)).set k (.int .i64 ((k0 + (k : Int)))) = I64 (marksI k0 (k + 1) ++ xs.drop (k + 1)) := by
  have e : xs.drop k = xs.getD k 0 :: xs.drop (k + 1) := by
    rw [List.drop_eq_getElem_cons (by omega)]; simp [show k < xs.length by omega]
  have e2 : marksI k0 (k + 1) = marksI k0 k ++ [(k0 + (k : Int))] := by simp [marksI, List.range_succ]
  rw [e, e2]
  simp only [I64, List.map_append, List.map_cons]
  rw [List.set_append_right _ _ (by simp [marksI_len])]
  simp [marksI_len]

end Go.Proofs.YtofflhhlacdgfaaDoor
namespace Go.Proofs.YtofflhhlacdgfaaDoor
open Go.RowKit

structure S4 (w W : World) (s0 sx sy sg : Value) (n0 nx ny ng : Nat) (l0 lx ly lg : List Int) : Prop where
  fr : Below w.heap.size w W
  o0 : W.ownsRow w.heap.size 3 1 s0 n0 (I64 l0)
  ox : W.ownsRow w.heap.size 3 1 sx nx (I64 lx)
  oy : W.ownsRow w.heap.size 5 1 sy ny (U8 ly)
  og : W.ownsRow w.heap.size 3 1 sg ng (I64 lg)
  d0x : Apart s0 sx
  d0y : Apart s0 sy
  d0g : Apart s0 sg
  dxy : Apart sx sy
  dxg : Apart sx sg
  dyg : Apart sy sg

theorem S4.below {w W W' : World} {s0 sx sy sg : Value} {n0 nx ny ng : Nat} {l0 lx ly lg : List Int} (h : S4 w W s0 sx sy sg n0 nx ny ng l0 lx ly lg) (hb : Below W.heap.size W W') : S4 w W' s0 sx sy sg n0 nx ny ng l0 lx ly lg :=
  ⟨h.fr.trans (hb.mono h.fr.size), own_below h.o0 hb, own_below h.ox hb, own_below h.oy hb, own_below h.og hb, h.d0x, h.d0y, h.d0g, h.dxy, h.dxg, h.dyg⟩
theorem S4.markx {w W W' : World} {s0 sx sy sg : Value} {n0 nx ny ng : Nat} {l0 lx lx' ly lg : List Int} (h : S4 w W s0 sx sy sg n0 nx ny ng l0 lx ly lg) (ho : W'.ownsRow w.heap.size 3 1 sx nx (I64 lx')) (hg : W.grownBy W' sx.ownBlock) : S4 w W' s0 sx sy sg n0 nx ny ng l0 lx' ly lg :=
  ⟨below_mark h.fr h.ox hg, own_kept h.o0 hg h.d0x.symm, ho, own_kept h.oy hg h.dxy, own_kept h.og hg h.dxg, h.d0x, h.d0y, h.d0g, h.dxy, h.dxg, h.dyg⟩
theorem S4.marky {w W W' : World} {s0 sx sy sg : Value} {n0 nx ny ng : Nat} {l0 lx ly ly' lg : List Int} (h : S4 w W s0 sx sy sg n0 nx ny ng l0 lx ly lg) (ho : W'.ownsRow w.heap.size 5 1 sy ny (U8 ly')) (hg : W.grownBy W' sy.ownBlock) : S4 w W' s0 sx sy sg n0 nx ny ng l0 lx ly' lg :=
  ⟨below_mark h.fr h.oy hg, own_kept h.o0 hg h.d0y.symm, own_kept h.ox hg h.dxy.symm, ho, own_kept h.og hg h.dyg, h.d0x, h.d0y, h.d0g, h.dxy, h.dxg, h.dyg⟩
theorem S4.markg {w W W' : World} {s0 sx sy sg : Value} {n0 nx ny ng : Nat} {l0 lx ly lg lg' : List Int} (h : S4 w W s0 sx sy sg n0 nx ny ng l0 lx ly lg) (ho : W'.ownsRow w.heap.size 3 1 sg ng (I64 lg')) (hg : W.grownBy W' sg.ownBlock) : S4 w W' s0 sx sy sg n0 nx ny ng l0 lx ly lg' :=
  ⟨below_mark h.fr h.og hg, own_kept h.o0 hg h.d0g.symm, own_kept h.ox hg h.dxg.symm, own_kept h.oy hg h.dyg.symm, ho, h.d0x, h.d0y, h.d0g, h.dxy, h.dxg, h.dyg⟩
end Go.Proofs.YtofflhhlacdgfaaDoor
namespace Go.Proofs.YtofflhhlacdgfaaDoor
set_option maxRecDepth 100000
open Go.RowKit

theorem step_append_bs {w : World} {ops : Array Oper} {o : Oper} {a : Act} {K : Act → World → Prop} {Q : Exit → Act → World → Prop} {E : Prop} (hgd : o.guard = none) (s x : Operand)
    (ho : o.op = .call { callee := .builtin .append, args := #[s, x], argTypes := #[22, 22] })
    (base : Nat) (v : Value) (n : Nat) (xs : List Int) (hs : a.eval s = v) (ad : Addr) (m c : Nat) (ys : List Int) (hx : a.eval x = .slice (some ad) m c)
    (hown : w.ownsRow base 5 1 v n (U8 xs)) (hb : Bs w (some ad) m c ys) (hlen : n + m ≤ 1099511627776) (hbase : base ≤ w.heap.size)
    (h : ∀ v' w', w'.ownsRow base 5 1 v' (n + m) (U8 (xs ++ ys)) → w.grownBy w' v.ownBlock → (v'.ownBlock = v.ownBlock ∨ v'.ownBlock = some w.heap.size) → K (a.put o.dst v') w') :
    if Region.wanted o (yielded ops a.tmps) = true then Oper.wp Tryd.prog o a w K Q else E := by
  obtain ⟨i0, hi, hz0, hz1, hz2⟩ := info_parts Tryd.info5
  obtain ⟨_, hl, hc, _, hb⟩ := hb
  have hw : Region.wanted o (yielded ops a.tmps) = true := by simp [Region.wanted, hgd]
  rw [if_pos hw]
  have hnews : ∀ j u, (U8 ys)[j]? = some u → w.cell? (ad.add j) = some u := by
    rcases hb with hb | ⟨b, off, ha, _, hcell⟩
    · intro j u hj
      have hy : ys = [] := List.eq_nil_of_length_eq_zero (by omega)
      subst hy
      simp at hj
    · obtain rfl := Option.some.inj ha
      intro j u hj
      have hjl : j < m := by
        have := (List.getElem?_eq_some_iff.1 hj).1
        simpa [hl] using this
      rw [Addr.add_lit, hcell j hjl]
      have e : (U8 ys)[j]? = some (.int .u8 (ys.getD j 0)) := by simp [show j < ys.length by omega]
      rw [e] at hj
      exact hj
  obtain ⟨v', w', hr, h2, h3, _, h5⟩ := run_append_own_at (P := Tryd.prog) w base 22 o.type 5 i0 (.int .u8 0) 1 1 Tryd.underlying22 hi hz0 hz1 hz2 rfl (by decide) v n (U8 xs) hown ad m c (U8 ys) (by simp [hl]) hnews (ints_oneCell _ _)
    (by unfold maxLen; omega) (by omega) hbase
  unfold Oper.wp execOp
  simp only [ho, resolve, invoke, builtin, Sem.run_bind, Sem.run_pure, Result.andThen_ok, List.map_toArray, List.map_cons, List.map_nil, hs, hx, hr]
  exact h v' w' (by simpa using h2) h3 h5
theorem made_below {w w' : World} (hg : (w.drew.alloc (.cells #[] 5)).grownBy w' (Value.ownBlock (.slice (some ⟨w.heap.size, 0, none⟩) 0 0))) : Below w.heap.size w w' :=
  ((Below.refl _ _).drew.alloc (Nat.le_refl _) _).grown hg (by simp) (fun k hk => by have e : w.heap.size = k := Option.some.inj hk; rw [← e]; exact Nat.le_refl _)
end Go.Proofs.YtofflhhlacdgfaaDoor

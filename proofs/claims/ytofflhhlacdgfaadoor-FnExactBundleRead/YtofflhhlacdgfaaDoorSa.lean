/-
  What is proved here: contracts of the specification's l2add and ShaAdd, for every value and every slice of at most 2^20 elements.
-/
import Derived.Test.YtofflhhlacdgfaaDoorJM14
import Derived.Test.YtofflhhlacdgfaaDoorJM13
namespace Go.Proofs.YtofflhhlacdgfaaDoor
set_option maxRecDepth 100000
open Go.RowKit

structure La (w W : World) (G : Nat) (vs : List Value) (st : List Int) (v : Value) (n : Nat) (l : List Int) : Prop where
  fr : Below w.heap.size w W
  p2 : Arr W w.heap.size 95 vs
  p4 : Arr W (w.heap.size + 1) 95 [.slice none 0 0, .int .i64 0, .slice none 0 0]
  g5 : Arr W G 133 (U32 st)
  ow : W.ownsRow (G + 1) 5 1 v n (U8 l)
  ge : w.heap.size + 1 < G
theorem La.go {w W W' : World} {G : Nat} {vs : List Value} {st : List Int} {v : Value} {n : Nat} {l : List Int} (h : La w W G vs st v n l) (hb : Below W.heap.size W W') : La w W' G vs st v n l :=
  ⟨h.fr.trans (hb.mono h.fr.size), h.p2.kept hb, h.p4.kept hb, h.g5.kept hb, own_below h.ow hb, h.ge⟩
theorem La.set8 {w W : World} {G : Nat} {vs : List Value} {a0 a1 a2 a3 a4 a5 a6 a7 : Int} {v : Value} {n : Nat} {l : List Int} (h : La w W G vs [a0, a1, a2, a3, a4, a5, a6, a7] v n l) (l0 l1 l2 l3 l4 l5 l6 l7 : Int) :
    La w ((((((((W.setCell ⟨G, 0, none⟩ (.int .u32 l0)).setCell ⟨G, 1, none⟩ (.int .u32 l1)).setCell ⟨G, 2, none⟩ (.int .u32 l2)).setCell ⟨G, 3, none⟩ (.int .u32 l3)).setCell ⟨G, 4, none⟩ (.int .u32 l4)).setCell ⟨G, 5, none⟩ (.int .u32 l5)).setCell ⟨G, 6, none⟩ (.int .u32 l6)).setCell ⟨G, 7, none⟩ (.int .u32 l7)) G vs [l0, l1, l2, l3, l4, l5, l6, l7] v n l := by
  have hg := h.ge
  have oth : ∀ {g : Nat} {t : TypeId} {cs : List Value}, Arr W g t cs → g ≠ G → Arr ((((((((W.setCell ⟨G, 0, none⟩ (.int .u32 l0)).setCell ⟨G, 1, none⟩ (.int .u32 l1)).setCell ⟨G, 2, none⟩ (.int .u32 l2)).setCell ⟨G, 3, none⟩ (.int .u32 l3)).setCell ⟨G, 4, none⟩ (.int .u32 l4)).setCell ⟨G, 5, none⟩ (.int .u32 l5)).setCell ⟨G, 6, none⟩ (.int .u32 l6)).setCell ⟨G, 7, none⟩ (.int .u32 l7)) g t cs :=
    fun ha hne => (((((((ha.other _ _ hne).other _ _ hne).other _ _ hne).other _ _ hne).other _ _ hne).other _ _ hne).other _ _ hne).other _ _ hne
  have lt : ∀ j : Nat, (⟨G, j, none⟩ : Addr).block < G + 1 := fun j => Nat.lt_succ_self G
  exact ⟨set8_below h.fr (by omega) _ _ _ _ _ _ _ _, oth h.p2 (by omega), oth h.p4 (by omega), h.g5.set8 l0 l1 l2 l3 l4 l5 l6 l7,
    own_other (own_other (own_other (own_other (own_other (own_other (own_other (own_other h.ow _ _ (lt 0)) _ _ (lt 1)) _ _ (lt 2)) _ _ (lt 3)) _ _ (lt 4)) _ _ (lt 5)) _ _ (lt 6)) _ _ (lt 7), h.ge⟩

theorem below_made {W W' : World} {o : Obj} (hg : (W.alloc o).grownBy W' (Value.ownBlock (.slice (some ⟨W.heap.size, 0, none⟩) 0 0))) : Below W.heap.size W W' :=
  ((Below.refl _ _).alloc (Nat.le_refl _) _).grown hg (by simp) (by intro k hk; simp [Value.ownBlock] at hk; omega)
theorem below_madeD {W W' : World} {o : Obj} (hg : (W.alloc o).drew.grownBy W' (Value.ownBlock (.slice (some ⟨W.heap.size, 0, none⟩) 0 0))) : Below W.heap.size W W' :=
  (((Below.refl _ _).alloc (Nat.le_refl _) _).drew).grown hg (by simp) (by intro k hk; simp [Value.ownBlock] at hk; omega)
theorem below_made2 {X W W' : World} (hb : Below X.heap.size X W) (hg : W.grownBy W' (Value.ownBlock (.slice (some ⟨X.heap.size, 0, none⟩) 0 0))) : Below X.heap.size X W' :=
  hb.grown hg hb.size (by intro k hk; simp [Value.ownBlock] at hk; omega)
theorem apart_app {W : World} {B e s n : Nat} {E v v' : Value} {l : List Value} (hN : W.ownsRow B e s v n l) (h5 : v'.ownBlock = E.ownBlock ∨ v'.ownBlock = some W.heap.size) (dE : Apart E v) : Apart v v' := by
  intro k hk he
  rcases h5 with h | h
  · exact dE k (h.symm.trans he) hk
  · have e : W.heap.size = k := Option.some.inj (h.symm.trans he)
    have := (hN.lt k hk).2
    omega
theorem shaIs_of {w W : World} {aN aC : Option Addr} {cN cC nC : Nat} {N : Int} {A R : List Int} (oN : W.ownsRow w.heap.size 3 1 (.slice aN 8 cN) 8 (I64 A)) (oC : W.ownsRow w.heap.size 5 1 (.slice aC nC cC) nC (U8 R)) (dd : Apart (.slice aN 8 cN) (.slice aC nC cC)) (hA : A.length = 8) (hR : R.length = nC) :
    ShaIs w W (.agg #[.slice aN 8 cN, .int .i64 N, .slice aC nC cC]) A N R := by
  refine ⟨aN, cN, aC, cC, ?_, ?_⟩
  · rw [hA, hR]
  · rw [hA, hR]; exact ⟨oN, oC, dd⟩
/-- What the last region reads. -/
def Sr (G M : Nat) (a0 a1 a2 a3 a4 a5 a6 a7 N : Int) (W : World) : Prop := W.cell? ⟨G, 0, none⟩ = some (.int .u32 a0) ∧ W.cell? ⟨G, 1, none⟩ = some (.int .u32 a1) ∧ W.cell? ⟨G, 2, none⟩ = some (.int .u32 a2) ∧ W.cell? ⟨G, 3, none⟩ = some (.int .u32 a3) ∧ W.cell? ⟨G, 4, none⟩ = some (.int .u32 a4) ∧ W.cell? ⟨G, 5, none⟩ = some (.int .u32 a5) ∧ W.cell? ⟨G, 6, none⟩ = some (.int .u32 a6) ∧ W.cell? ⟨G, 7, none⟩ = some (.int .u32 a7) ∧ W.cell? ⟨M, 1, none⟩ = some (.int .i64 N)
theorem Sr.of {W : World} {G M : Nat} {a0 a1 a2 a3 a4 a5 a6 a7 N : Int} {x y : Value} (h : Arr W G 133 (U32 [a0, a1, a2, a3, a4, a5, a6, a7])) (h' : Arr W M 95 [x, .int .i64 N, y]) : Sr G M a0 a1 a2 a3 a4 a5 a6 a7 N W := by
  refine ⟨?_, ?_, ?_, ?_, ?_, ?_, ?_, ?_, h'.cell 1⟩
  · simpa using h.u32 0 (by simp)
  · simpa using h.u32 1 (by simp)
  · simpa using h.u32 2 (by simp)
  · simpa using h.u32 3 (by simp)
  · simpa using h.u32 4 (by simp)
  · simpa using h.u32 5 (by simp)
  · simpa using h.u32 6 (by simp)
  · simpa using h.u32 7 (by simp)
theorem La.sS {w W : World} {G : Nat} {a0 a1 a2 a3 a4 a5 a6 a7 N : Int} {x y v : Value} {n : Nat} {l : List Int} (h : La w W G [x, .int .i64 N, y] [a0, a1, a2, a3, a4, a5, a6, a7] v n l) : Sr G w.heap.size a0 a1 a2 a3 a4 a5 a6 a7 N W := Sr.of h.g5 h.p2
theorem La.sSa {w W : World} {G : Nat} {a0 a1 a2 a3 a4 a5 a6 a7 N : Int} {x y v : Value} {n : Nat} {l : List Int} (h : La w W G [x, .int .i64 N, y] [a0, a1, a2, a3, a4, a5, a6, a7] v n l) (o : Obj) : Sr G w.heap.size a0 a1 a2 a3 a4 a5 a6 a7 N (W.alloc o) := Sr.of (h.g5.alloc o) (h.p2.alloc o)
theorem La.sSd {w W : World} {G : Nat} {a0 a1 a2 a3 a4 a5 a6 a7 N : Int} {x y v : Value} {n : Nat} {l : List Int} (h : La w W G [x, .int .i64 N, y] [a0, a1, a2, a3, a4, a5, a6, a7] v n l) (o : Obj) : Sr G w.heap.size a0 a1 a2 a3 a4 a5 a6 a7 N (W.alloc o).drew := Sr.of (h.g5.alloc o).drew (h.p2.alloc o).drew
theorem La.sS3 {w W : World} {G : Nat} {a0 a1 a2 a3 a4 a5 a6 a7 N : Int} {x y v : Value} {n : Nat} {l : List Int} (h : La w W G [x, .int .i64 N, y] [a0, a1, a2, a3, a4, a5, a6, a7] v n l) (v0 v1 v2 : Value) :
    Sr G w.heap.size a0 a1 a2 a3 a4 a5 a6 a7 N (((W.setCell ⟨w.heap.size + 1, 0, none⟩ v0).setCell ⟨w.heap.size + 1, 1, none⟩ v1).setCell ⟨w.heap.size + 1, 2, none⟩ v2) := by
  have hg := h.ge
  exact Sr.of (((h.g5.other ⟨w.heap.size + 1, 0, none⟩ v0 (by simp; omega)).other ⟨w.heap.size + 1, 1, none⟩ v1 (by simp; omega)).other ⟨w.heap.size + 1, 2, none⟩ v2 (by simp; omega))
    (((h.p2.other ⟨w.heap.size + 1, 0, none⟩ v0 (by simp)).other ⟨w.heap.size + 1, 1, none⟩ v1 (by simp)).other ⟨w.heap.size + 1, 2, none⟩ v2 (by simp))
theorem La.all {w W : World} {G : Nat} {vs : List Value} {st : List Int} {v : Value} {n : Nat} {l : List Int} (h : La w W G vs st v n l) (o : Obj) : La w (W.alloc o) G vs st v n l := h.go ((Below.refl _ _).alloc (Nat.le_refl _) _)
theorem La.alld {w W : World} {G : Nat} {vs : List Value} {st : List Int} {v : Value} {n : Nat} {l : List Int} (h : La w W G vs st v n l) (o : Obj) : La w (W.alloc o).drew G vs st v n l := h.go ((Below.refl _ _).alloc (Nat.le_refl _) _).drew

set_option maxHeartbeats 4000000 in
theorem specAdd (aH : Option Addr) (cH : Nat) (N : Int) (aT : Option Addr) (nT cT : Nat) (hs ts : List Int) (ab : Option Addr) (nb cb : Nat) (bs : List Int) (w : World) (hH : Is w aH 8 cH hs) (hwd : ∀ x ∈ hs, 0 ≤ x ∧ x < 4294967296) (hT : Bs w aT nT cT ts) (hB : Bs w ab nb cb bs)
    (hN1 : 0 ≤ N) (hN2 : N ≤ 20000) (hnT : nT ≤ 1048576) (hnb : nb ≤ 1048576) :
    Calls Tryd.prog 123 #[shaV aH 8 cH N aT nT cT, .slice ab nb cb] w fun e w' => ∃ v, e = .returned v ∧ ShaIs w w' v (allB hs (ts ++ bs)) (N + bs.length) (restB (ts ++ bs)) ∧ Below w.heap.size w w' := by
  have h8 := hH.2.1
  have htl := hT.2.1
  have hbl := hB.2.1
  have hby3 : ∀ x ∈ ts ++ bs, 0 ≤ x ∧ x < 256 := fun x hx => by
    rcases List.mem_append.1 hx with h | h
    · exact hT.2.2.2.1 x h
    · exact hB.2.2.2.1 x h
  have HBY : Hid _ := hby3
  have HWD : Hid _ := hwd
  clear hby3 hwd
  obtain ⟨W, hW⟩ : ∃ W, W = (w.alloc (.cells #[.slice aH 8 cH, .int .i64 N, .slice aT nT cT] 95)).alloc (.cells #[.slice none 0 0, .int .i64 0, .slice none 0 0] 95) := ⟨_, rfl⟩
  have B0 : Below w.heap.size w W := by rw [hW]; exact ((Below.refl _ _).alloc (Nat.le_refl _) _).alloc (by simp) _
  have A2 : Arr W w.heap.size 95 [.slice aH 8 cH, .int .i64 N, .slice aT nT cT] := by rw [hW]; exact (Arr.new _ _ _).alloc _
  have A4 : Arr W (w.heap.size + 1) 95 [.slice none 0 0, .int .i64 0, .slice none 0 0] := by
    rw [hW]
    have := Arr.new (w.alloc (.cells #[.slice aH 8 cH, .int .i64 N, .slice aT nT cT] 95)) [.slice none 0 0, .int .i64 0, .slice none 0 0] 95
    rw [show (w.alloc (.cells #[.slice aH 8 cH, .int .i64 N, .slice aT nT cT] 95)).heap.size = w.heap.size + 1 by simp] at this
    exact this
  go_enter Tryd.func123, Tryd.ntmps123
  go_wp2_with fail
  rw [show (w.alloc (.cells #[.slice aH 8 cH, .int .i64 N, .slice aT nT cT] 95)).alloc (.cells #[.slice none 0 0, .int .i64 0, .slice none 0 0] 95) = W from hW.symm]
  refine (specFrom aH cH hs _ (hH.below B0) HWD.out).mono ?_
  rintro e w1 ⟨rfl, hb1⟩
  have B1 := B0.trans (hb1.mono B0.size)
  have C2 := A2.kept hb1
  have C4 := A4.kept hb1
  clear A2 A4 B0 hW hb1
  obtain ⟨l0, l1, l2, l3, l4, l5, l6, l7, hhs⟩ := list8 h8
  rw [show (Value.agg (U32 hs).toArray) = Value.agg #[.int .u32 l0, .int .u32 l1, .int .u32 l2, .int .u32 l3, .int .u32 l4, .int .u32 l5, .int .u32 l6, .int .u32 l7] by rw [hhs]; rfl]
  have HHS : Hid _ := hhs
  clear hhs
  have hsz1 := B1.size
  have hl2 := C2.lt
  have hl4 := C4.lt
  have e2 := C2.cell 2
  simp at e2
  have D2 : Arr (w1.alloc (.cells #[.int .u32 l0, .int .u32 l1, .int .u32 l2, .int .u32 l3, .int .u32 l4, .int .u32 l5, .int .u32 l6, .int .u32 l7] 133)) _ _ _ := C2.alloc _
  have D4 : Arr (w1.alloc (.cells #[.int .u32 l0, .int .u32 l1, .int .u32 l2, .int .u32 l3, .int .u32 l4, .int .u32 l5, .int .u32 l6, .int .u32 l7] 133)) _ _ _ := C4.alloc _
  have DG : Arr (w1.alloc (.cells #[.int .u32 l0, .int .u32 l1, .int .u32 l2, .int .u32 l3, .int .u32 l4, .int .u32 l5, .int .u32 l6, .int .u32 l7] 133)) w1.heap.size 133 (U32 [l0, l1, l2, l3, l4, l5, l6, l7]) := Arr.new _ _ _
  have B2 : Below w.heap.size w (w1.alloc (.cells #[.int .u32 l0, .int .u32 l1, .int .u32 l2, .int .u32 l3, .int .u32 l4, .int .u32 l5, .int .u32 l6, .int .u32 l7] 133)) := B1.alloc hsz1 _
  have hBm : Bs ((w1.alloc (.cells #[.int .u32 l0, .int .u32 l1, .int .u32 l2, .int .u32 l3, .int .u32 l4, .int .u32 l5, .int .u32 l6, .int .u32 l7] 133)).alloc (.cells #[] 5)) aT nT cT ts := hT.below (B2.alloc (by simp; omega) _)
  clear B1 C2 C4 hT
  go_wp2_with (at_builtin; refine wpl_append_bs rfl _ _ rfl (w1.heap.size + 1) _ 0 [] rfl aT nT cT ts rfl ?_ hBm ?_ ?_ ?_)
  · have := World.ownsRow_made (base := w1.heap.size + 1) (e := 5) (size := 1) (w1.alloc (.cells #[.int .u32 l0, .int .u32 l1, .int .u32 l2, .int .u32 l3, .int .u32 l4, .int .u32 l5, .int .u32 l6, .int .u32 l7] 133)) #[] 0 (by simp) (by unfold maxLen; omega) rfl
    rw [show (w1.alloc (.cells #[.int .u32 l0, .int .u32 l1, .int .u32 l2, .int .u32 l3, .int .u32 l4, .int .u32 l5, .int .u32 l6, .int .u32 l7] 133)).heap.size = w1.heap.size + 1 by simp] at this
    exact this
  · omega
  · simp
  intro v3 w3 hown3 hgrow3 nn3
  have LA3 : La w w3 w1.heap.size [.slice aH 8 cH, .int .i64 N, .slice aT nT cT] [l0, l1, l2, l3, l4, l5, l6, l7] v3 nT ts := by
    have hb : Below (w1.heap.size + 1) (w1.alloc (.cells #[.int .u32 l0, .int .u32 l1, .int .u32 l2, .int .u32 l3, .int .u32 l4, .int .u32 l5, .int .u32 l6, .int .u32 l7] 133)) w3 := ((Below.refl _ _).alloc (by simp) _).grown hgrow3 (by simp) (by intro k hk; simp [Value.ownBlock] at hk; omega)
    exact ⟨⟨hb.os.trans B2.os, hb.tape.trans B2.tape, hb.output.trans B2.output, Nat.le_trans B2.size hb.size, fun i hi => (hb.block i (by omega)).trans (B2.block i hi)⟩, D2.below hb (by omega), D4.below hb (by omega), DG.below hb (by omega), hown3, hl4⟩
  clear hown3 hgrow3 hBm D2 D4 DG B2 e2
  have hB3 := hB.below LA3.fr
  go_wp2_with (at_builtin; refine wpl_append_bs rfl _ _ rfl (w1.heap.size + 1) _ nT ts rfl ab nb cb bs rfl LA3.ow hB3 ?_ ?_ ?_)
  · omega
  · have := LA3.g5.lt; omega
  intro v4 w4 hown4 hgrow4 nn4
  clear nn3
  have LA4 : La w w4 w1.heap.size [.slice aH 8 cH, .int .i64 N, .slice aT nT cT] [l0, l1, l2, l3, l4, l5, l6, l7] v4 (nT + nb) (ts ++ bs) := by
    have hb : Below (w1.heap.size + 1) w3 w4 := (Below.refl _ _).grown hgrow4 (by have := LA3.g5.lt; omega) (fun k hk => (LA3.ow.lt k hk).1)
    have hb' : Below w.heap.size w3 w4 := hb.mono (by omega)
    exact ⟨LA3.fr.trans hb', LA3.p2.below hb (by omega), LA3.p4.below hb (by omega), LA3.g5.below hb (by omega), by simpa using hown4, hl4⟩
  clear hown4 hgrow4 hB3 LA3
  have hll : (ts ++ bs).length = nT + nb := by simp [htl, hbl]
  obtain ⟨l, hle⟩ : ∃ l, l = ts ++ bs := ⟨_, rfl⟩
  obtain ⟨n, hne⟩ : ∃ n, n = nT + nb := ⟨_, rfl⟩
  rw [← hle, ← hne] at LA4 hll
  rw [← hle] at HBY
  have hn2 : n ≤ 2097152 := by omega
  have HLE : Hid _ := hle
  have hNb : N + (bs.length : Int) = N + (nb : Int) := by rw [hbl]
  have HNB : Hid _ := hNb
  clear hle hne hNb
  obtain ⟨G, hG⟩ : ∃ G, G = w1.heap.size := ⟨_, rfl⟩
  rw [← hG] at LA4 ⊢
  have hGge := LA4.ge
  clear hG hl2 hl4 hsz1
  obtain ⟨a4, c4, rfl, hc4, hb4⟩ := Bs.own LA4.ow HBY.out
  have hcn := hb4.2.2.1
  have LA : La w w4 G [.slice aH 8 cH, .int .i64 N, .slice aT nT cT] (fld hs l 0) (.slice a4 n c4) n l := by
    rw [show fld hs l 0 = [l0, l1, l2, l3, l4, l5, l6, l7] from HHS.out]; exact LA4
  clear LA4 hb4
  unfold maxLen at hc4
  go_wp2
  go_loopw [7] (fun i wr => ∃ k p : Nat, p = 64 * k ∧ p ≤ n ∧ i = .int .i64 p ∧ La w wr G [.slice aH 8 cH, .int .i64 N, .slice aT nT cT] (fld hs l k) (.slice a4 n c4) n l) (fun i _ => n - (intOf i).toNat)
  case atStart => exact ⟨0, 0, rfl, by omega, rfl, LA⟩
  case round =>
    clear LA
    obtain ⟨k, p, hp, hpn, rfl, LA⟩ := hrel
    have r64 : IntKind.i64.wrap ((p : Int) + 64) = (p : Int) + 64 := by rw [IntKind.wrap_i64]; omega
    have HP : Hid _ := hp
    by_cases hlt : p + 64 ≤ n
    · have hlt' : (p : Int) + 64 ≤ (n : Int) := by omega
      have h8k := fld_len h8 l k
      obtain ⟨a0, a1, a2, a3, a4', a5, a6, a7, hst⟩ := list8 h8k
      rw [hst] at LA
      have HST : Hid _ := hst
      clear hst h8k hp
      have d0 := LA.g5.u32 0 (by simp)
      have d1 := LA.g5.u32 1 (by simp)
      have d2 := LA.g5.u32 2 (by simp)
      have d3 := LA.g5.u32 3 (by simp)
      have d4 := LA.g5.u32 4 (by simp)
      have d5 := LA.g5.u32 5 (by simp)
      have d6 := LA.g5.u32 6 (by simp)
      have d7 := LA.g5.u32 7 (by simp)
      simp at d0 d1 d2 d3 d4 d5 d6 d7
      have hbx := bs_of_own LA.ow HBY.out
      obtain ⟨b, o, rfl⟩ : ∃ b o, a4 = some ⟨b, o, none⟩ := by
        rcases hbx.2.2.2.2 with h | ⟨b, o, h, _⟩
        · omega
        · exact ⟨b, o, h⟩
      have hcp : ¬ c4 = p := by omega
      have hpc : (p : Int) + 64 ≤ (c4 : Int) := by omega
      have hp0 : (0 : Int) ≤ (p : Int) := by omega
      have t1 : ((p : Int) + 64 - (p : Int)).toNat = 64 := by omega
      have t2 : ((c4 : Int) - (p : Int)).toNat = c4 - p := by omega
      go_wp2
      have hbp : Bs wr.drew (some ⟨b, o + p, none⟩) 64 (c4 - p) ((l.drop p).take 64) := (hbx.drop (m := p) (by omega)).take (by omega)
      have LAd := LA.go (Below.refl _ _).drew
      clear hbx LA
      go_region_with (go_at_call 137; refine (specBlock [a0, a1, a2, a3, a4', a5, a6, a7] (some ⟨b, o + p, none⟩) (c4 - p) ((l.drop p).take 64) _ rfl hbp).mono ?_; rintro e w5 ⟨rfl, hb5⟩; obtain ⟨z0, z1, z2, z3, z4, z5, z6, z7, hz⟩ := list8 (blk_len (h := [a0, a1, a2, a3, a4', a5, a6, a7]) rfl ((l.drop p).take 64)); rw [hz]; have HZ : Hid _ := hz; clear hz; have LA5 := LAd.go hb5; replace d0 := LA5.g5.u32 0 (by simp); replace d1 := LA5.g5.u32 1 (by simp); replace d2 := LA5.g5.u32 2 (by simp); replace d3 := LA5.g5.u32 3 (by simp); replace d4 := LA5.g5.u32 4 (by simp); replace d5 := LA5.g5.u32 5 (by simp); replace d6 := LA5.g5.u32 6 (by simp); replace d7 := LA5.g5.u32 7 (by simp); have ff := LA5.g5.frozen; simp at d0 d1 d2 d3 d4 d5 d6 d7)
      all_goals
        have LA6 := LA5.set8 z0 z1 z2 z3 z4 z5 z6 z7
        have hf : fld hs l (k + 1) = [z0, z1, z2, z3, z4, z5, z6, z7] := by
          show blk (fld hs l k) ((l.drop (64 * k)).take 64) = _
          rw [HST.out, ← HP.out]; exact HZ.out
        rw [← hf] at LA6
        clear hf HZ LA5 LAd d0 d1 d2 d3 d4 d5 d6 d7 ff hbp
        go_wp2
        go_roundw
        case rel => exact ⟨k + 1, p + 64, by have := HP.out; omega, by omega, by go_num, LA6⟩
        case measure => simp [intOf]; omega
    · have hk : n / 64 = k := by have := HP.out; omega
      have eA : allB hs l = fld hs l k := by unfold allB; rw [hll, hk]
      have eR : restB l = l.drop p := by unfold restB; rw [hll, hk, hp]
      have h8k := fld_len h8 l k
      have hwk := fld_word HWD.out l k
      obtain ⟨a0, a1, a2, a3, a4', a5, a6, a7, hst⟩ := list8 h8k
      rw [hst] at LA hwk eA
      have EA : Hid _ := eA
      have ER : Hid _ := eR
      have HWK : Hid _ := hwk
      clear hst h8k hp hwk eA eR hk
      obtain ⟨b, rfl⟩ : ∃ b, a4 = some ⟨b, 0, none⟩ := by
        rcases (own_shape LA.ow).2 with ⟨h, _⟩ | ⟨g, cap, h, _⟩
        · exact absurd h nn4
        · cases h; exact ⟨g, rfl⟩
      have hbx := bs_of_own LA.ow HBY.out
      have hRl : (l.drop p).length = n - p := by simp [hll]
      have HRB : Hid (∀ x ∈ l.drop p, 0 ≤ x ∧ x < 256) := fun x hx => HBY.out x (List.mem_of_mem_drop hx)
      have hlt' : ¬ ((p : Int) + 64 ≤ (n : Int)) := by omega
      have LAd := LA.go (Below.refl _ _).drew
      have hsl0 := LAd.p4.lt
      have f0 := LAd.p4.cell 0
      have f1 := LAd.p4.cell 1
      have f2 := LAd.p4.cell 2
      have ff := LAd.p4.frozen
      simp at f0 f1 f2
      have hwr : IntKind.i64.wrap (N + (nb : Int)) = N + (nb : Int) := by rw [IntKind.wrap_i64]; omega
      have hp0 : (0 : Int) ≤ (p : Int) := by omega
      have HSZ : (Tryd.prog.info? 95).map (·.size) = some 3 := by kernel_rfl
      by_cases hce : c4 = p
      · have hnp : n = p := by omega
        have hnil : l.drop p = [] := List.eq_nil_of_length_eq_zero (by omega)
        subst hce
        subst hnp
        have hbR : Bs wr (some ⟨b, 0, none⟩) 0 0 (l.drop n) := Bs.none0 hnil
        replace hRl : (l.drop n).length = 0 := by rw [hnil]; rfl
        have hbRd := hbR.below (Below.refl _ _).drew
        clear hbx hnil
        go_wp2
        go_region_held3 (fun W => W.cell? ⟨G, 0, none⟩ = some (.int .u32 a0) ∧ W.cell? ⟨G, 1, none⟩ = some (.int .u32 a1) ∧ W.cell? ⟨G, 2, none⟩ = some (.int .u32 a2) ∧ W.cell? ⟨G, 3, none⟩ = some (.int .u32 a3) ∧ W.cell? ⟨G, 4, none⟩ = some (.int .u32 a4') ∧ W.cell? ⟨G, 5, none⟩ = some (.int .u32 a5) ∧ W.cell? ⟨G, 6, none⟩ = some (.int .u32 a6) ∧ W.cell? ⟨G, 7, none⟩ = some (.int .u32 a7) ∧ W.cell? ⟨w.heap.size, 1, none⟩ = some (.int .i64 N)) (first | exact LAd.sS | exact LAd.sSa _ | exact LA.sSd _ | exact LAd.sS3 _ _ _)
          (first
            | (go_at_call 138; refine (specWords [a0, a1, a2, a3, a4', a5, a6, a7] _ rfl HWK.out).mono ?_; rintro e wN ⟨vN, rfl, hoN, hbN⟩; obtain ⟨aN, cN, rfl, _, _⟩ := Is.own hoN (words_int HWK.out);
               (first
                 | (have LAN := LAd.go (W' := wN) (by with_reducible exact hbN)
                    have sN := LAd.fr.size
                    have tN := LAd.p4.lt
                    (try replace hbRd := hbRd.below hbN)
                    replace LAd := LAN
                    clear LAN
                    replace f0 := LAd.p4.cell 0; replace f1 := LAd.p4.cell 1; replace f2 := LAd.p4.cell 2; replace ff := LAd.p4.frozen; simp at f0 f1 f2)
                 | (have LAe := LA.alld (.cells #[] 5)
                    have LAN := LAe.go (W' := wN) (by with_reducible exact hbN)
                    have sN := LAe.fr.size
                    have tN := LAe.p4.lt
                    have hmE := (World.ownsRow_made (base := wr.heap.size) (e := 5) (size := 1) wr #[] 0 (Nat.le_refl _) (by unfold maxLen; omega) rfl).drew
                    have hoE := own_below hmE hbN
                    have ddE := apart_of hmE hoN (Nat.le_refl _)
                    have bE : Below wr.heap.size wr wN := ((Below.refl _ _).alloc (Nat.le_refl _) _).drew.trans (hbN.mono (by simp))
                    replace hbRd := hbR.below bE
                    replace LAd := LAN
                    clear LAN LAe hmE
                    replace f0 := LAd.p4.cell 0; replace f1 := LAd.p4.cell 1; replace f2 := LAd.p4.cell 2; replace ff := LAd.p4.frozen; simp at f0 f1 f2)))
            | (have hoE' := hoE
               refine step_append_bs rfl _ _ rfl _ _ 0 [] rfl ⟨b, 0, none⟩ 0 0 (l.drop n) rfl hoE hbRd (by omega) bE.size ?_
               intro vC wC hoC hgC h5C
               have sC := LA.fr.size
               have tC := LA.p4.lt
               have hbC := below_made2 bE hgC
               have dd := apart_app hoN h5C ddE
               replace hoN := own_kept hoN hgC ddE
               replace LAd := LA.go hbC
               simp only [Nat.zero_add, List.nil_append] at hoC
               obtain ⟨aC, cC, rfl, _, _⟩ := Bs.own hoC HRB.out
               clear hbC hgC hbRd h5C hoE hoE'
               replace f0 := LAd.p4.cell 0; replace f1 := LAd.p4.cell 1; replace f2 := LAd.p4.cell 2; replace ff := LAd.p4.frozen; simp at f0 f1 f2)
            | (refine step_append_bs rfl _ _ rfl _ _ 0 [] rfl ⟨b, 0, none⟩ 0 0 (l.drop n) rfl (World.ownsRow_made (base := _) (e := 5) (size := 1) _ #[] 0 (Nat.le_refl _) (by unfold maxLen; omega) rfl) (hbRd.below ((Below.refl _ _).alloc (Nat.le_refl _) _)) (by omega) (by simp) ?_
               intro vC wC hoC hgC _
               have sC := LAd.fr.size
               have tC := LAd.p4.lt
               have hbC := below_made hgC
               (try (have dd := apart_of hoN hoC (Nat.le_refl _); replace hoN := own_below hoN hbC))
               replace LAd := LAd.go hbC
               simp only [Nat.zero_add, List.nil_append] at hoC
               obtain ⟨aC, cC, rfl, _, _⟩ := Bs.own hoC HRB.out
               clear hbC hgC hbRd
               replace f0 := LAd.p4.cell 0; replace f1 := LAd.p4.cell 1; replace f2 := LAd.p4.cell 2; replace ff := LAd.p4.frozen; simp at f0 f1 f2))
        all_goals
          have p4' := ((LAd.p4.set 0 (.slice aN 8 cN)).set 1 (.int .i64 (N + (nb : Int)))).set 2 (.slice aC 0 cC)
          have fr' := ((LAd.fr.setCell (p := ⟨w.heap.size + 1, 0, none⟩) (by simp) (.slice aN 8 cN)).setCell (p := ⟨w.heap.size + 1, 1, none⟩) (by simp) (.int .i64 (N + (nb : Int)))).setCell (p := ⟨w.heap.size + 1, 2, none⟩) (by simp) (.slice aC 0 cC)
          have oN := own_base (own_other (own_other (own_other hoN ⟨w.heap.size + 1, 0, none⟩ (.slice aN 8 cN) tN) ⟨w.heap.size + 1, 1, none⟩ (.int .i64 (N + (nb : Int))) tN) ⟨w.heap.size + 1, 2, none⟩ (.slice aC 0 cC) tN) sN
          have oC := own_base (own_other (own_other (own_other hoC ⟨w.heap.size + 1, 0, none⟩ (.slice aN 8 cN) tC) ⟨w.heap.size + 1, 1, none⟩ (.int .i64 (N + (nb : Int))) tC) ⟨w.heap.size + 1, 2, none⟩ (.slice aC 0 cC) tC) sC
          have P4 : Hid _ := p4'
          have FR : Hid _ := fr'
          have SI : Hid _ := shaIs_of (N := N + (nb : Int)) oN oC dd rfl hRl
          clear p4' fr' oN oC hoN hoC LAd LA f0 f1 f2 ff hbR
          go_wp2
          exact bodyPost_ret (results_cell_row rfl _ _ (w.heap.size + 1) 95 #[.slice aN 8 cN, .int .i64 (N + (nb : Int)), .slice aC 0 cC] (0, 0) _ rfl P4.out Tryd.underlying95 rfl HSZ) rfl ⟨_, rfl, by (rw [← HLE.out, EA.out, ER.out]; (try rw [hbl]); exact SI.out), FR.out⟩
      · have hbR := hbx.drop (m := p) (by omega)
        have hpn' : (p : Int) ≤ (n : Int) := by omega
        have hpc : (n : Int) ≤ (c4 : Int) := by omega
        have t1 : ((n : Int) - (p : Int)).toNat = n - p := by omega
        have t2 : ((c4 : Int) - (p : Int)).toNat = c4 - p := by omega
        simp only [Nat.zero_add] at hbR
        have hbRd := hbR.below (Below.refl _ _).drew
        clear hbx
        go_wp2
        go_region_held3 (fun W => W.cell? ⟨G, 0, none⟩ = some (.int .u32 a0) ∧ W.cell? ⟨G, 1, none⟩ = some (.int .u32 a1) ∧ W.cell? ⟨G, 2, none⟩ = some (.int .u32 a2) ∧ W.cell? ⟨G, 3, none⟩ = some (.int .u32 a3) ∧ W.cell? ⟨G, 4, none⟩ = some (.int .u32 a4') ∧ W.cell? ⟨G, 5, none⟩ = some (.int .u32 a5) ∧ W.cell? ⟨G, 6, none⟩ = some (.int .u32 a6) ∧ W.cell? ⟨G, 7, none⟩ = some (.int .u32 a7) ∧ W.cell? ⟨w.heap.size, 1, none⟩ = some (.int .i64 N)) (first | exact LAd.sS | exact LAd.sSa _ | exact LA.sSd _ | exact LAd.sS3 _ _ _)
          (first
            | (go_at_call 138; refine (specWords [a0, a1, a2, a3, a4', a5, a6, a7] _ rfl HWK.out).mono ?_; rintro e wN ⟨vN, rfl, hoN, hbN⟩; obtain ⟨aN, cN, rfl, _, _⟩ := Is.own hoN (words_int HWK.out);
               (first
                 | (have LAN := LAd.go (W' := wN) (by with_reducible exact hbN)
                    have sN := LAd.fr.size
                    have tN := LAd.p4.lt
                    (try replace hbRd := hbRd.below hbN)
                    replace LAd := LAN
                    clear LAN
                    replace f0 := LAd.p4.cell 0; replace f1 := LAd.p4.cell 1; replace f2 := LAd.p4.cell 2; replace ff := LAd.p4.frozen; simp at f0 f1 f2)
                 | (have LAe := LA.alld (.cells #[] 5)
                    have LAN := LAe.go (W' := wN) (by with_reducible exact hbN)
                    have sN := LAe.fr.size
                    have tN := LAe.p4.lt
                    have hmE := (World.ownsRow_made (base := wr.heap.size) (e := 5) (size := 1) wr #[] 0 (Nat.le_refl _) (by unfold maxLen; omega) rfl).drew
                    have hoE := own_below hmE hbN
                    have ddE := apart_of hmE hoN (Nat.le_refl _)
                    have bE : Below wr.heap.size wr wN := ((Below.refl _ _).alloc (Nat.le_refl _) _).drew.trans (hbN.mono (by simp))
                    replace hbRd := hbR.below bE
                    replace LAd := LAN
                    clear LAN LAe hmE
                    replace f0 := LAd.p4.cell 0; replace f1 := LAd.p4.cell 1; replace f2 := LAd.p4.cell 2; replace ff := LAd.p4.frozen; simp at f0 f1 f2)))
            | (have hoE' := hoE
               refine step_append_bs rfl _ _ rfl _ _ 0 [] rfl ⟨b, p, none⟩ (n - p) (c4 - p) (l.drop p) rfl hoE hbRd (by omega) bE.size ?_
               intro vC wC hoC hgC h5C
               have sC := LA.fr.size
               have tC := LA.p4.lt
               have hbC := below_made2 bE hgC
               have dd := apart_app hoN h5C ddE
               replace hoN := own_kept hoN hgC ddE
               replace LAd := LA.go hbC
               simp only [Nat.zero_add, List.nil_append] at hoC
               obtain ⟨aC, cC, rfl, _, _⟩ := Bs.own hoC HRB.out
               clear hbC hgC hbRd h5C hoE hoE'
               replace f0 := LAd.p4.cell 0; replace f1 := LAd.p4.cell 1; replace f2 := LAd.p4.cell 2; replace ff := LAd.p4.frozen; simp at f0 f1 f2)
            | (refine step_append_bs rfl _ _ rfl _ _ 0 [] rfl ⟨b, p, none⟩ (n - p) (c4 - p) (l.drop p) rfl (World.ownsRow_made (base := _) (e := 5) (size := 1) _ #[] 0 (Nat.le_refl _) (by unfold maxLen; omega) rfl) (hbRd.below ((Below.refl _ _).alloc (Nat.le_refl _) _)) (by omega) (by simp) ?_
               intro vC wC hoC hgC _
               have sC := LAd.fr.size
               have tC := LAd.p4.lt
               have hbC := below_made hgC
               (try (have dd := apart_of hoN hoC (Nat.le_refl _); replace hoN := own_below hoN hbC))
               replace LAd := LAd.go hbC
               simp only [Nat.zero_add, List.nil_append] at hoC
               obtain ⟨aC, cC, rfl, _, _⟩ := Bs.own hoC HRB.out
               clear hbC hgC hbRd
               replace f0 := LAd.p4.cell 0; replace f1 := LAd.p4.cell 1; replace f2 := LAd.p4.cell 2; replace ff := LAd.p4.frozen; simp at f0 f1 f2))
        all_goals
          have p4' := ((LAd.p4.set 0 (.slice aN 8 cN)).set 1 (.int .i64 (N + (nb : Int)))).set 2 (.slice aC (n - p) cC)
          have fr' := ((LAd.fr.setCell (p := ⟨w.heap.size + 1, 0, none⟩) (by simp) (.slice aN 8 cN)).setCell (p := ⟨w.heap.size + 1, 1, none⟩) (by simp) (.int .i64 (N + (nb : Int)))).setCell (p := ⟨w.heap.size + 1, 2, none⟩) (by simp) (.slice aC (n - p) cC)
          have oN := own_base (own_other (own_other (own_other hoN ⟨w.heap.size + 1, 0, none⟩ (.slice aN 8 cN) tN) ⟨w.heap.size + 1, 1, none⟩ (.int .i64 (N + (nb : Int))) tN) ⟨w.heap.size + 1, 2, none⟩ (.slice aC (n - p) cC) tN) sN
          have oC := own_base (own_other (own_other (own_other hoC ⟨w.heap.size + 1, 0, none⟩ (.slice aN 8 cN) tC) ⟨w.heap.size + 1, 1, none⟩ (.int .i64 (N + (nb : Int))) tC) ⟨w.heap.size + 1, 2, none⟩ (.slice aC (n - p) cC) tC) sC
          have P4 : Hid _ := p4'
          have FR : Hid _ := fr'
          have SI : Hid _ := shaIs_of (N := N + (nb : Int)) oN oC dd rfl hRl
          clear p4' fr' oN oC hoN hoC LAd LA f0 f1 f2 ff hbR
          go_wp2
          exact bodyPost_ret (results_cell_row rfl _ _ (w.heap.size + 1) 95 #[.slice aN 8 cN, .int .i64 (N + (nb : Int)), .slice aC (n - p) cC] (0, 0) _ rfl P4.out Tryd.underlying95 rfl HSZ) rfl ⟨_, rfl, by (rw [← HLE.out, EA.out, ER.out]; (try rw [hbl]); exact SI.out), FR.out⟩
end Go.Proofs.YtofflhhlacdgfaaDoor

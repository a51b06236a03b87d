/-
  What is proved here: append onto a row of records that the call owns; the records of a summary as plain data; what the specification's Summary answers; the records of a half and the places that are used, as plain data; what the specification's Scan answers; where the records of a half lie and which places are used, as plain data; no program is spoken of.
-/
import Derived.Test.YtjceajgefpinpaaJN12
import Derived.Test.YtjceajgefpinpaaJN1
import Derived.Laws.AppendOwnNone
import Derived.Test.YtjceajgefpinpaaJN11
import Derived.Test.YtjceajgefpinpaaJN9
namespace Go.Proofs.Ytjceajgefpinpaa
open Go.RowKit
set_option maxRecDepth 100000
set_option maxHeartbeats 4000000
set_option linter.unusedVariables false

theorem FL_one : ∀ (xs : List Rc), ∀ u ∈ FL xs, u.oneCell' = true
  | [], u, h => by cases h
  | r :: t, u, h => by
    simp only [FL, List.mem_cons] at h
    rcases h with rfl | rfl | rfl | rfl | h
    · rfl
    · rfl
    · rfl
    · rfl
    · exact FL_one t u h
theorem rs_cells {w : World} {b o n : Nat} {ys : List Rc} (hl : ys.length = n) (h : ∀ i, i < n → Rat w b (o + i * 4) (rg ys i)) (j : Nat) (u : Value) (hj : (FL ys)[j]? = some u) : w.cell? ⟨b, o + j, none⟩ = some u := by
  have hjl : j < ys.length * 4 := by rw [← FL_len]; exact (List.getElem?_eq_some_iff.1 hj).1
  have hi : j / 4 < n := by omega
  obtain ⟨a0, a1, a2, a3⟩ := FL_get ys (j / 4) (by omega)
  obtain ⟨c0, c1, c2, c3⟩ := h (j / 4) hi
  have : j = j / 4 * 4 ∨ j = j / 4 * 4 + 1 ∨ j = j / 4 * 4 + 2 ∨ j = j / 4 * 4 + 3 := by omega
  rcases this with e | e | e | e
  · rw [e] at hj ⊢; rw [a0] at hj; rw [c0]; exact hj
  · rw [e] at hj ⊢; rw [a1] at hj; rw [show o + (j / 4 * 4 + 1) = o + j / 4 * 4 + 1 by omega, c1]; exact hj
  · rw [e] at hj ⊢; rw [a2] at hj; rw [show o + (j / 4 * 4 + 2) = o + j / 4 * 4 + 2 by omega, c2]; exact hj
  · rw [e] at hj ⊢; rw [a3] at hj; rw [show o + (j / 4 * 4 + 3) = o + j / 4 * 4 + 3 by omega, c3]; exact hj
theorem wpl_append_rs {w : World} {ops : Array Oper} {rest : List Oper} {o : Oper} {a : Act} {Q : Exit → Act → World → Prop} (hgd : o.guard = none) (s x : Operand)
    (ho : o.op = .call { callee := .builtin .append, args := #[s, x], argTypes := #[24, 24] })
    (base : Nat) (v : Value) (n : Nat) (xs : List Rc) (hs : a.eval s = v) (ao : Option Addr) (m c : Nat) (ys : List Rc) (hx : a.eval x = .slice ao m c)
    (hown : w.ownsRow base 29 4 v n (FL xs)) (hb : Rs w ao m c ys) (hlen : n + m ≤ 1048576) (hbase : base ≤ w.heap.size)
    (h : ∀ v' w', w'.ownsRow base 29 4 v' (n + m) (FL (xs ++ ys)) → w.grownBy w' v.ownBlock → wpList Try.prog ops Q rest (a.put o.dst v') w') :
    wpList Try.prog ops Q (o :: rest) a w := by
  obtain ⟨i0, hi, hz0, hz1, hz2⟩ := info_parts (show (Try.prog.info? 29).map (fun i => (i.zero, i.size, i.bytes)) = some (some (rcV 0 0 0 0), 4, 32) by kernel_rfl)
  obtain ⟨hcap, hl, hc, hb⟩ := hb
  cases ao with
  | none =>
    have hc0 := hcap rfl
    subst hc0
    have hm : m = 0 := by omega
    subst hm
    have hy : ys = [] := List.eq_nil_of_length_eq_zero hl
    subst hy
    exact wpList_append_own_none hgd s x 24 ho base 29 i0 4 Try.underlying24 hi v n (FL xs) hs hown hx
      (h v w (by simpa using hown) (World.grownBy.refl _ _))
  | some ad =>
    refine wpList_append_own w hgd s x 24 ho base 29 i0 (rcV 0 0 0 0) 4 32 Try.underlying24 hi hz0 hz1 hz2 rfl (by decide) v n (FL xs) hs hown ad m c (FL ys) hx (by rw [FL_len, hl]) ?_ (FL_one _)
      (by unfold maxLen; omega) (by omega) hbase ?_
    · rcases hb with hb | ⟨b, off, ha, _, hcell⟩
      · intro j u hj
        have hy : ys = [] := List.eq_nil_of_length_eq_zero (by omega)
        subst hy
        simp [FL] at hj
      · obtain rfl := Option.some.inj ha
        intro j u hj
        rw [Addr.add_lit]
        exact rs_cells hl hcell j u hj
    · intro v' w' h1 h2 _
      exact h v' w' (by rw [FL_app]; exact h1) h2
/-- One new record, as a slice. -/
theorem Rs.one (w : World) (r : Rc) : Rs (w.alloc (.cells (rcC r).toArray 29)) (some ⟨w.heap.size, 0, none⟩) 1 1 [r] := by
  have A := Arr.new w (rcC r) 29
  refine ⟨(fun h => by cases h), rfl, Nat.le_refl _, .inr ⟨w.heap.size, 0, rfl, by simp, ?_⟩⟩
  intro j hj
  have : j = 0 := by omega
  subst this
  exact ⟨A.cell 0, A.cell 1, A.cell 2, A.cell 3⟩

abbrev rTry : Rc := ⟨4, 0, 0, 0⟩
/-- The records of a summary. -/
def smR (b n f : Int) (t : Bool) (i o : Int) : List Rc := if t = false then [⟨2, b, n, f⟩] else [⟨2, 1 - b, o, f⟩, ⟨3, b, n, 0⟩] ++ List.replicate i.toNat rTry
def smL (b n f : Int) (t : Bool) (i o : Int) : List Rc := if btOk b n f t i o then smR b n f t i o else []

theorem specSummaryL (b n f : Int) (t : Bool) (i o : Int) (w : World) (hb : 0 ≤ b ∧ b ≤ 1) (hi : 0 ≤ i ∧ i ≤ 3) :
    Calls Try.prog 71 #[btV b n f t i o] w fun e w' => ∃ v, e = .returned v ∧ w'.ownsRow w.heap.size 29 4 v (smR b n f t i o).length (FL (smR b n f t i o)) ∧ Below w.heap.size w w' := by
  obtain ⟨L, hL⟩ : ∃ L, smR b n f t i o = L := ⟨_, rfl⟩
  rw [hL]
  unfold smR at hL
  obtain ⟨W, hW⟩ : ∃ W, W = w.alloc (.cells #[.int .i64 b, .int .i64 n, .int .i64 f, .bool t, .int .i64 i, .int .i64 o] 35) := ⟨_, rfl⟩
  have B : Below w.heap.size w W := by rw [hW]; exact (Below.refl _ _).alloc (Nat.le_refl _) _
  have A : Arr W w.heap.size 35 [.int .i64 b, .int .i64 n, .int .i64 f, .bool t, .int .i64 i, .int .i64 o] := by rw [hW]; exact Arr.new _ _ _
  have c0 := A.cell 0
  have c1 := A.cell 1
  have c2 := A.cell 2
  have c3 := A.cell 3
  have c4 := A.cell 4
  have c5 := A.cell 5
  simp at c0 c1 c2 c3 c4 c5
  have hw : IntKind.i64.wrap (1 - b) = 1 - b := wr64 (by omega) (by omega)
  go_enter Try.func71, Try.ntmps71
  go_upto_region 1 with fail
  rw [← hW]
  clear hW
  cases t
  · rw [if_pos rfl] at hL
    have HL : Hid _ := hL
    clear hL
    have HO : Hid _ := World.ownsRow_lit (base := w.heap.size) (e := 29) (size := 4) W (FL [⟨2, b, n, f⟩]).toArray 1 B.size (by unfold maxLen; omega) rfl
    have HB : Hid _ := B.alloc B.size (.cells (FL [⟨2, b, n, f⟩]).toArray 29)
    go_wp2
    go_ret
    rw [← HL.out]
    exact ⟨_, rfl, HO.out, HB.out⟩
  · rw [if_neg (by simp)] at hL
    have HL : Hid _ := hL
    clear hL
    obtain ⟨W1, hW1⟩ : ∃ W1, W1 = W.alloc (.cells (FL [⟨2, 1 - b, o, f⟩, ⟨3, b, n, 0⟩]).toArray 29) := ⟨_, rfl⟩
    have O1 : W1.ownsRow w.heap.size 29 4 (.slice (some ⟨W.heap.size, 0, none⟩) 2 2) 2 (FL [⟨2, 1 - b, o, f⟩, ⟨3, b, n, 0⟩]) := by
      rw [hW1]; exact World.ownsRow_lit W _ 2 B.size (by unfold maxLen; omega) rfl
    have b1 : Below W.heap.size W W1 := by rw [hW1]; exact (Below.refl _ _).alloc (Nat.le_refl _) _
    have hW1' : W1 = W.alloc (.cells #[.int .i64 2, .int .i64 (1 - b), .int .i64 o, .int .i64 f, .int .i64 3, .int .i64 b, .int .i64 n, .int .i64 0] 29) := hW1
    have zW : w.heap.size < W.heap.size := A.lt
    have A1 := A.kept b1
    have B1 := B.trans (b1.mono B.size)
    have O1' : W1.ownsRow W.heap.size 29 4 (.slice (some ⟨W.heap.size, 0, none⟩) 2 2) (2 + 0) (FL ([⟨2, 1 - b, o, f⟩, ⟨3, b, n, 0⟩] ++ List.replicate 0 rTry)) := by
      rw [hW1]; exact World.ownsRow_lit W _ 2 (Nat.le_refl _) (by unfold maxLen; omega) rfl
    have z1 : W.heap.size ≤ W1.heap.size := b1.size
    clear O1 hW1 A B b1
    obtain ⟨I, rfl⟩ : ∃ I : Nat, i = (I : Int) := ⟨i.toNat, by omega⟩
    obtain ⟨R0, hR0⟩ : ∃ R0 : List Rc, R0 = [⟨2, 1 - b, o, f⟩, ⟨3, b, n, 0⟩] := ⟨_, rfl⟩
    rw [← hR0] at O1' HL
    have HR0 : Hid (R0.length = 2) := by unfold Hid; rw [hR0]; rfl
    clear hR0
    go_wp2
    rw [← hW1']
    clear hW1' c0 c1 c2 c3 c4 c5
    go_loopw [3, 4] (fun v k wr => ∃ j : Nat, j ≤ I ∧ k = .int .i64 j ∧ wr.ownsRow W.heap.size 29 4 v (2 + j) (FL (R0 ++ List.replicate j rTry)) ∧ Below w.heap.size w wr ∧ Arr wr w.heap.size 35 [.int .i64 b, .int .i64 n, .int .i64 f, .bool true, .int .i64 I, .int .i64 o] ∧ W.heap.size ≤ wr.heap.size) (fun _ k _ => I - (intOf k).toNat)
    case atStart => exact ⟨0, by omega, rfl, O1', B1, A1, z1⟩
    case round =>
      clear O1' B1 A1 z1
      obtain ⟨j, hj, rfl, O, B, A, z⟩ := hrel
      have c4 := A.cell 4
      simp at c4
      by_cases hlt : j < I
      · have hltI : (j : Int) < (I : Int) := by omega
        have A2 := A.alloc (.cells #[.int .i64 4, .int .i64 0, .int .i64 0, .int .i64 0] 29)
        have HO : Hid _ := O.alloc (.cells #[.int .i64 4, .int .i64 0, .int .i64 0, .int .i64 0] 29)
        have H1 : Hid _ := Rs.one wr rTry
        have B2 := B.alloc B.size (.cells #[.int .i64 4, .int .i64 0, .int .i64 0, .int .i64 0] 29)
        clear O A B
        go_wp2_with (at_builtin; refine wpl_append_rs rfl _ _ rfl W.heap.size _ (2 + j) (R0 ++ List.replicate j rTry) rfl (some ⟨wr.heap.size, 0, none⟩) 1 1 [rTry] rfl HO.out H1.out ?_ ?_ ?_)
        · omega
        · simp; omega
        intro v2 w2 O2 g2
        have O3 : w2.ownsRow W.heap.size 29 4 v2 (2 + (j + 1)) (FL (R0 ++ List.replicate (j + 1) rTry)) := by
          rw [List.replicate_succ']; exact O2
        have hne : ∀ k, Value.ownBlock _ = some k → W.heap.size ≤ k := fun k hk => (World.ownsRow.lt HO.out k hk).1
        have B3 : Below w.heap.size w w2 := B2.grown g2 (by simp; omega) (fun k hk => by have := hne k hk; omega)
        have A3 : Arr w2 w.heap.size 35 [.int .i64 b, .int .i64 n, .int .i64 f, .bool true, .int .i64 I, .int .i64 o] := (g2.block _ A2.lt (fun e => by have := hne _ e.symm; omega)).trans A2
        have z3 : W.heap.size ≤ w2.heap.size := Nat.le_trans (by simp; omega) g2.size
        clear O2 g2 HO H1 B2 A2 c4 hne
        go_wp2
        go_roundw
        case rel => exact ⟨j + 1, by omega, by go_num, O3, B3, A3, z3⟩
        case measure => simp [intOf]; omega
      · have hjn : j = I := by omega
        subst hjn
        go_wp2
        go_ret
        refine ⟨_, rfl, ?_, B⟩
        rw [← HL.out]
        have e : (R0 ++ List.replicate (Int.toNat (j : Int)) rTry).length = 2 + j := by simp [HR0.out]
        rw [e]
        exact own_base O (by omega)
theorem specSummary (b n f : Int) (t : Bool) (i o : Int) (w : World) :
    Calls Try.prog 44 #[btV b n f t i o] w fun e w' => ∃ v, e = .returned v ∧ w'.ownsRow w.heap.size 29 4 v (smL b n f t i o).length (FL (smL b n f t i o)) ∧ Below w.heap.size w w' := by
  obtain ⟨L, hL⟩ : ∃ L, smL b n f t i o = L := ⟨_, rfl⟩
  rw [hL]
  unfold smL at hL
  obtain ⟨W, hW⟩ : ∃ W, W = w.alloc (.cells #[.int .i64 b, .int .i64 n, .int .i64 f, .bool t, .int .i64 i, .int .i64 o] 35) := ⟨_, rfl⟩
  have B : Below w.heap.size w W := by rw [hW]; exact (Below.refl _ _).alloc (Nat.le_refl _) _
  have A : Arr W w.heap.size 35 [.int .i64 b, .int .i64 n, .int .i64 f, .bool t, .int .i64 i, .int .i64 o] := by rw [hW]; exact Arr.new _ _ _
  go_enter Try.func44, Try.ntmps44
  go_upto_region 1 with fail
  rw [← hW]
  clear hW
  have c0 := A.cell 0
  have c1 := A.cell 1
  have c2 := A.cell 2
  have c3 := A.cell 3
  have c4 := A.cell 4
  have c5 := A.cell 5
  simp at c0 c1 c2 c3 c4 c5
  go_wp2_with fail
  refine (specBootOk b n f t i o _).mono ?_
  rintro e w1 ⟨rfl, hb1⟩
  replace A := A.kept hb1
  replace B := B.trans (hb1.mono B.size)
  clear hb1 c0 c1 c2 c3 c4 c5
  by_cases hok : btOk b n f t i o
  · rw [decide_eq_true hok]
    rw [if_pos hok] at hL
    have HL : Hid _ := hL
    have hb := hok.1
    have hi : 0 ≤ i ∧ i ≤ 3 := by have := hok.2.2.2; revert this; cases t <;> simp <;> omega
    clear hL hok
    have c0 := A.cell 0
    have c1 := A.cell 1
    have c2 := A.cell 2
    have c3 := A.cell 3
    have c4 := A.cell 4
    have c5 := A.cell 5
    simp at c0 c1 c2 c3 c4 c5
    go_wp2_with fail
    refine (specSummaryL b n f t i o _ hb hi).mono ?_
    rintro e w2 ⟨v, rfl, O, hb2⟩
    rw [HL.out] at O
    have B2 := B.trans (hb2.mono B.size)
    have O2 := own_base O B.size
    clear O hb2 B A c0 c1 c2 c3 c4 c5
    go_wp2
    go_ret
    exact ⟨_, rfl, O2, B2⟩
  · rw [decide_eq_false hok]
    rw [if_neg hok] at hL
    have HL : Hid _ := hL
    clear hL hok
    go_wp2
    go_ret
    rw [← HL.out]
    exact ⟨_, rfl, World.ownsRow_nil _ _ _ _, B⟩
end Go.Proofs.Ytjceajgefpinpaa
namespace Go.Proofs.Ytjceajgefpinpaa
set_option maxRecDepth 100000
set_option maxHeartbeats 4000000
open Go.RowKit
set_option linter.unusedVariables false

/-- The bytes of a place. -/
def pl (xs : List Int) (k : Nat) : List Int := (xs.drop (8 * k)).take 8
abbrev goR (ys : List Int) : Rc := ⟨goK ys, goB ys, goN ys, goF ys⟩
/-- The records of the first places. -/
def scR (xs : List Int) : Nat → List Rc
  | 0 => []
  | k + 1 => scR xs k ++ (if gOkB (pl xs k) = true then [goR (pl xs k)] else [])
/-- How many of the first places are used. -/
def scU (xs : List Int) : Nat → Nat
  | 0 => 0
  | k + 1 => if blk (pl xs k) = true then scU xs k else k + 1
def scL (xs : List Int) : List Rc := if xs.length = 256 then scR xs 32 else []
def scN (xs : List Int) : Nat := if xs.length = 256 then scU xs 32 else 0
theorem scR_le (xs : List Int) : ∀ k, (scR xs k).length ≤ k
  | 0 => Nat.le_refl _
  | k + 1 => by
    have := scR_le xs k
    unfold scR
    split <;> simp <;> omega
theorem scU_le (xs : List Int) : ∀ k, scU xs k ≤ k
  | 0 => Nat.le_refl _
  | k + 1 => by
    have := scU_le xs k
    unfold scU
    split <;> omega
theorem pl_len {xs : List Int} {k : Nat} (h : xs.length = 256) (hk : k < 32) : (pl xs k).length = 8 := by simp [pl]; omega
theorem pl_get {xs : List Int} {k j : Nat} (hj : j < 8) : (pl xs k).getD j 0 = xs.getD (8 * k + j) 0 := by
  simp [pl, List.getD_eq_getElem?_getD, hj]
theorem bs_pl {w : World} {b o c k : Nat} {xs : List Int} (h : Bs w (some ⟨b, o, none⟩) 256 c xs) (hk : k < 32) : Bs w (some ⟨b, o + 8 * k, none⟩) 8 (c - 8 * k) (pl xs k) := by
  obtain ⟨_, hl, hc, hby, hr⟩ := h
  refine ⟨(fun h => by cases h), pl_len hl hk, by omega, fun x hx => hby x (List.mem_of_mem_drop (List.mem_of_mem_take hx)), .inr ⟨b, o + 8 * k, rfl, ?_, fun j hj => ?_⟩⟩
  · rcases hr with hr | ⟨b', o', e, hlt, _⟩
    · omega
    · cases e; exact hlt
  · rcases hr with hr | ⟨b', o', e, hlt, hcell⟩
    · omega
    · cases e
      rw [pl_get hj, show o + 8 * k + j = o + (8 * k + j) by omega]
      exact hcell _ (by omega)

theorem specL10scan (b o c : Nat) (xs : List Int) (w : World) (h : Bs w (some ⟨b, o, none⟩) 256 c xs) :
    Calls Try.prog 67 #[.slice (some ⟨b, o, none⟩) 256 c] w fun e w' => ∃ v, e = .returned (.tuple #[v, .int .i64 (scU xs 32 : Nat)]) ∧ w'.ownsRow w.heap.size 29 4 v (scR xs 32).length (FL (scR xs 32)) ∧ Below w.heap.size w w' := by
  have hc := h.2.2.1
  go_enter Try.func67, Try.ntmps67
  go_wp2
  go_loopw [4, 5, 6] (fun v u i wr => ∃ k : Nat, k ≤ 32 ∧ i = .int .i64 ((8 * k : Nat) : Int) ∧ u = .int .i64 ((scU xs k : Nat) : Int) ∧ wr.ownsRow w.heap.size 29 4 v (scR xs k).length (FL (scR xs k)) ∧ Below w.heap.size w wr) (fun _ _ i _ => 256 - (intOf i).toNat)
  case atStart => exact ⟨0, by omega, rfl, rfl, World.ownsRow_nil _ _ _ _, Below.refl _ _⟩
  case round =>
    obtain ⟨k, hk, rfl, rfl, O, B⟩ := hrel
    obtain ⟨i, hi⟩ : ∃ i : Nat, i = 8 * k := ⟨_, rfl⟩
    rw [← hi]
    by_cases hlt : k < 32
    · have hle : (i : Int) + 8 ≤ 256 := by omega
      have w1 : IntKind.i64.wrap ((i : Int) + 8) = (i : Int) + 8 := wr64 (by omega) (by omega)
      have t1 : ((i : Int) + 8).toNat = i + 8 := by omega
      have HP : Hid _ := bs_pl (h.below B) hlt
      rw [← hi] at HP
      have hne : i ≠ c := by omega
      have hle2 : (i : Int) + 8 ≤ (c : Int) := by omega
      have hq : (i : Int).tdiv 8 = (k : Int) := by rw [Int.tdiv_eq_ediv_of_nonneg (by omega)]; omega
      have hr1 : i + 8 - i = 8 := by omega
      have HU : Hid (scU xs (k + 1) = if blk (pl xs k) = true then scU xs k else k + 1) := rfl
      have HR : Hid (scR xs (k + 1) = scR xs k ++ (if gOkB (pl xs k) = true then [goR (pl xs k)] else [])) := rfl
      have hul := scU_le xs k
      have hrl := scR_le xs k
      obtain ⟨u, hu⟩ : ∃ u, u = scU xs k := ⟨_, rfl⟩
      obtain ⟨L, hL⟩ : ∃ L, L = scR xs k := ⟨_, rfl⟩
      rw [← hu] at hul HU ⊢
      rw [← hL] at hrl HR O
      clear hu hL
      have HI : Hid _ := hi
      have hk1 : (k : Int) + 1 ≤ 32 := by omega
      have wq : IntKind.i64.wrap ((k : Int) + 1) = (k : Int) + 1 := wr64 (by omega) (by omega)
      have Hh : Hid _ := h
      clear hi h
      go_wp2_with fail
      refine (specL10get (some ⟨b, o + i, none⟩) 8 (c - i) (pl xs k) _ HP.out rfl).mono ?_
      rintro e w2 ⟨rfl, hb2⟩
      have HP2 : Hid _ := Bs.below HP.out hb2
      have O2 := own_below O hb2
      have B2 := B.trans (hb2.mono B.size)
      clear HP O B hb2
      unfold goV
      obtain ⟨gk, hgk⟩ : ∃ q, q = goK (pl xs k) := ⟨_, rfl⟩
      obtain ⟨gb, hgb⟩ : ∃ q, q = goB (pl xs k) := ⟨_, rfl⟩
      obtain ⟨gn, hgn⟩ : ∃ q, q = goN (pl xs k) := ⟨_, rfl⟩
      obtain ⟨gf, hgf⟩ : ∃ q, q = goF (pl xs k) := ⟨_, rfl⟩
      obtain ⟨ok, hok⟩ : ∃ q, q = gOkB (pl xs k) := ⟨_, rfl⟩
      unfold goR at HR
      rw [← hgk, ← hgb, ← hgn, ← hgf, ← hok] at HR
      rw [← hgk, ← hgb, ← hgn, ← hgf, ← hok]
      clear hgk hgb hgn hgf hok
      obtain ⟨W3, hW3⟩ : ∃ W3, W3 = w2.alloc (.cells #[.int .i64 gk, .int .i64 gb, .int .i64 gn, .int .i64 gf] 29) := ⟨_, rfl⟩
      have b3 : Below w2.heap.size w2 W3 := by rw [hW3]; exact (Below.refl _ _).alloc (Nat.le_refl _) _
      have R3 : Arr W3 w2.heap.size 29 [.int .i64 gk, .int .i64 gb, .int .i64 gn, .int .i64 gf] := by rw [hW3]; exact Arr.new _ _ _
      have HP3 : Hid _ := Bs.below HP2.out b3
      have O3 := own_below O2 b3
      have B3 := B2.trans (b3.mono B2.size)
      clear HP2 O2 B2 b3
      cases ok
      · rw [if_neg (by simp), List.append_nil] at HR
        go_upto_region 8 with fail
        rw [← hW3]
        clear hW3
        go_wp2_with fail
        refine (specBlankB (some ⟨b, o + i, none⟩) 8 (c - i) (pl xs k) _ HP3.out (by omega)).mono ?_
        rintro e w4 ⟨rfl, hw4⟩
        rw [hw4]
        clear hw4 HP3 R3
        by_cases hbl : blk (pl xs k) = true
        · rw [hbl]
          rw [if_pos hbl] at HU
          clear hbl
          go_wp2
          go_roundw
          case rel =>
            refine ⟨k + 1, by omega, ?_, by rw [HU.out], by rw [HR.out]; exact O3, B3⟩
            have := HI.out
            congr 1
            omega
          case measure => simp [intOf]; omega
        · rw [if_neg hbl] at HU
          have hbl' : blk (pl xs k) = false := by simpa using hbl
          rw [hbl']
          clear hbl hbl'
          go_wp2
          go_roundw
          case rel =>
            refine ⟨k + 1, by omega, ?_, ?_, by rw [HR.out]; exact O3, B3⟩
            · have := HI.out
              congr 1
              omega
            · rw [HU.out]; rfl
          case measure => simp [intOf]; omega
      · rw [if_pos rfl] at HR
        go_upto_region 8 with fail
        rw [← hW3]
        clear hW3
        have c0 := R3.cell 0
        have c1 := R3.cell 1
        have c2 := R3.cell 2
        have c3 := R3.cell 3
        simp at c0 c1 c2 c3
        have HO : Hid _ := O3.alloc (.cells #[.int .i64 gk, .int .i64 gb, .int .i64 gn, .int .i64 gf] 29)
        have H1 : Hid _ := Rs.one W3 ⟨gk, gb, gn, gf⟩
        have B4 := B3.alloc B3.size (.cells #[.int .i64 gk, .int .i64 gb, .int .i64 gn, .int .i64 gf] 29)
        have HP4 : Hid _ := Bs.below HP3.out ((Below.refl _ _).alloc (Nat.le_refl _) (.cells #[.int .i64 gk, .int .i64 gb, .int .i64 gn, .int .i64 gf] 29))
        have z3 := B3.size
        have bb : b < W3.heap.size := by
          rcases HP3.out.2.2.2.2 with h | ⟨b', o', e, hlt, _⟩
          · omega
          · cases e; exact hlt
        clear O3 B3 HP3
        go_wp2_with (at_builtin; refine wpl_append_rs rfl _ _ rfl w.heap.size _ L.length L rfl (some ⟨W3.heap.size, 0, none⟩) 1 1 [⟨gk, gb, gn, gf⟩] rfl HO.out H1.out ?_ ?_ ?_)
        · omega
        · simp; omega
        intro v5 w5 O5 g5
        have B5 : Below w.heap.size w w5 := B4.grown g5 (by simp; omega) (fun k hk => (World.ownsRow.lt HO.out k hk).1)
        have HP5 : Hid _ := bs_pl (Bs.below Hh.out B5) hlt
        rw [← HI.out] at HP5
        clear HO H1 B4 HP4 g5 c0 c1 c2 c3 R3 z3 bb
        go_wp2_with fail
        refine (specBlankB (some ⟨b, o + i, none⟩) 8 (c - i) (pl xs k) _ HP5.out (by omega)).mono ?_
        rintro e w6 ⟨rfl, hw6⟩
        rw [hw6]
        clear hw6 HP5
        by_cases hbl : blk (pl xs k) = true
        · rw [hbl]
          rw [if_pos hbl] at HU
          clear hbl
          go_wp2
          go_roundw
          case rel =>
            refine ⟨k + 1, by omega, ?_, by rw [HU.out], by rw [HR.out]; rw [List.length_append]; exact O5, B5⟩
            have := HI.out
            congr 1
            omega
          case measure => simp [intOf]; omega
        · rw [if_neg hbl] at HU
          have hbl' : blk (pl xs k) = false := by simpa using hbl
          rw [hbl']
          clear hbl hbl'
          go_wp2
          go_roundw
          case rel =>
            refine ⟨k + 1, by omega, ?_, ?_, by rw [HR.out]; rw [List.length_append]; exact O5, B5⟩
            · have := HI.out
              congr 1
              omega
            · rw [HU.out]; rfl
          case measure => simp [intOf]; omega
    · have hkn : k = 32 := by omega
      have hle : ¬ ((i : Int) + 8 ≤ 256) := by omega
      have w1 : IntKind.i64.wrap ((i : Int) + 8) = (i : Int) + 8 := wr64 (by omega) (by omega)
      subst hkn
      clear hi
      go_wp2
      go_ret2
      exact ⟨_, rfl, O, B⟩
theorem specScan (a : Option Addr) (n c : Nat) (xs : List Int) (w : World) (h : Bs w a n c xs) (hn : n ≤ 2097152) :
    Calls Try.prog 32 #[.slice a n c] w fun e w' => ∃ v, e = .returned (.tuple #[v, .int .i64 ((scN xs : Nat) : Int)]) ∧ w'.ownsRow w.heap.size 29 4 v (scL xs).length (FL (scL xs)) ∧ Below w.heap.size w w' := by
  have hl := h.2.1
  by_cases hn6 : n = 256
  · subst hn6
    rcases h.2.2.2.2 with h0 | ⟨b, o, rfl, hlt, _⟩
    · omega
    have e1 : scL xs = scR xs 32 := if_pos hl
    have e2 : scN xs = scU xs 32 := if_pos hl
    rw [e1, e2]
    clear e1 e2
    have HS := specL10scan b o c xs w h
    generalize scU xs 32 = U at HS ⊢
    generalize scR xs 32 = R at HS ⊢
    have HC : Hid _ := HS
    clear HS h hl
    go_enter Try.func32, Try.ntmps32
    go_wp2_with fail
    refine Calls.mono HC.out ?_
    rintro e w2 ⟨v, rfl, O, B⟩
    go_wp2
    go_ret2
    exact ⟨_, rfl, O, B⟩
  · have h6 : ((n : Int) != 256) = true := by simp; omega
    have e1 : scL xs = [] := if_neg (by omega)
    have e2 : scN xs = 0 := if_neg (by omega)
    rw [e1, e2]
    go_enter Try.func32, Try.ntmps32
    go_wp2
    go_ret2
    exact ⟨_, rfl, World.ownsRow_nil _ _ _ _, Below.refl _ _⟩
end Go.Proofs.Ytjceajgefpinpaa
namespace Go.Proofs.Ytjceajgefpinpaa
open Go.RowKit
set_option maxRecDepth 100000
set_option linter.unusedVariables false

theorem scR_has (xs : List Int) (i : Nat) (hg : gOkB (pl xs i) = true) : ∀ n, i < n → rg (scR xs n) (scR xs i).length = goR (pl xs i) ∧ (scR xs i).length < (scR xs n).length
  | 0, h => absurd h (Nat.not_lt_zero _)
  | n + 1, h => by
    by_cases e : i = n
    · subst e
      have e1 : scR xs (i + 1) = scR xs i ++ [goR (pl xs i)] := by
        show scR xs i ++ (if gOkB (pl xs i) = true then [goR (pl xs i)] else []) = _
        rw [if_pos hg]
      rw [e1]
      refine ⟨?_, by simp⟩
      unfold rg
      simp
    · obtain ⟨h1, h2⟩ := scR_has xs i hg n (by omega)
      have e1 : scR xs (n + 1) = scR xs n ++ (if gOkB (pl xs n) = true then [goR (pl xs n)] else []) := rfl
      rw [e1]
      refine ⟨?_, by rw [List.length_append]; omega⟩
      rw [← h1]
      unfold rg
      rw [List.getD_eq_getElem?_getD, List.getD_eq_getElem?_getD, List.getElem?_append_left h2]
theorem used_of (xs : List Int) (i : Nat) (hb : blk (pl xs i) = false) : ∀ n, i < n → i < scU xs n
  | 0, h => absurd h (Nat.not_lt_zero _)
  | n + 1, h => by
    unfold scU
    by_cases e : i = n
    · subst e
      rw [if_neg (by rw [hb]; simp)]
      omega
    · have := used_of xs i hb n (by omega)
      split <;> omega
theorem blk_of (xs : List Int) (i n : Nat) (h : i < n) (hu : scU xs n ≤ i) : blk (pl xs i) = true := by
  cases hb : blk (pl xs i)
  · have := used_of xs i hb n h
    omega
  · rfl
theorem ok_full {ys : List Int} (h : gOkB ys = true) : blk ys = false := by
  obtain ⟨hl, ho, _⟩ := (gOkB_iff ys).1 h
  unfold blk
  rw [decide_eq_false_iff_not]
  intro hall
  have g : ∀ j, j < 8 → ys.getD j 0 = 255 := fun j hj => by
    have e : ys.getD j 0 = ys[j]'(by omega) := by simp [show j < ys.length by omega]
    rw [e]
    exact hall _ (List.getElem_mem _)
  have h0 := ho 0 (by omega)
  rw [g 0 (by omega), g (4 + 0) (by omega)] at h0
  revert h0
  decide
theorem blk_get {ys : List Int} (h : blk ys = true) {j : Nat} (hj : j < ys.length) : ys.getD j 0 = 255 := by
  unfold blk at h
  rw [decide_eq_true_eq] at h
  have e : ys.getD j 0 = ys[j] := by simp [hj]
  rw [e]
  exact h _ (List.getElem_mem hj)
theorem scR_len (xs : List Int) (i : Nat) : (scR xs (i + 1)).length = (scR xs i).length + (if gOkB (pl xs i) = true then 1 else 0) := by
  show (scR xs i ++ (if gOkB (pl xs i) = true then [goR (pl xs i)] else [])).length = _
  rw [List.length_append]
  split <;> rfl
end Go.Proofs.Ytjceajgefpinpaa

/-
  What is proved here: what the specification's l8words does: it writes a word and numbers behind a row.
-/
import Derived.Test.YtofflhhlacdgfaaDoorT0
import Derived.Test.YtofflhhlacdgfaaDoorJM21
import Derived.Lib.AppendStr
import Derived.Deep.CutRange
namespace Go.Proofs.YtofflhhlacdgfaaDoor
open Go.RowKit
set_option maxRecDepth 100000
set_option maxHeartbeats 4000000
set_option linter.unusedVariables false

/-- Numbers, each behind a blank. -/
def nmL : List Int → List Int
  | [] => []
  | x :: t => 32 :: dgs x.toNat ++ nmL t
/-- A line. -/
def lnL (ws ns : List Int) : List Int := ws ++ nmL ns ++ [10]
theorem nmL_snoc : ∀ (l : List Int) (x : Int), nmL (l ++ [x]) = nmL l ++ (32 :: dgs x.toNat)
  | [], x => by simp [nmL]
  | y :: t, x => by
    show 32 :: dgs y.toNat ++ nmL (t ++ [x]) = _
    rw [nmL_snoc t x]
    simp [nmL]
abbrev nsOk (ns : List Int) : Prop := ∀ x ∈ ns, 0 ≤ x ∧ x ≤ 1000000
theorem nmL_len : ∀ (l : List Int), nsOk l → (nmL l).length ≤ 8 * l.length
  | [], _ => by simp [nmL]
  | x :: t, h => by
    have h1 := nmL_len t (fun y hy => h y (List.mem_cons_of_mem _ hy))
    have h2 := dgs_le (n := x.toNat) (by have := h x List.mem_cons_self; omega)
    simp [nmL]
    omega
theorem nmL_byte : ∀ (l : List Int), ∀ x ∈ nmL l, 0 ≤ x ∧ x < 256
  | [], x, h => by simp [nmL] at h
  | y :: t, x, h => by
    simp only [nmL, List.cons_append, List.mem_cons, List.mem_append] at h
    rcases h with rfl | h | h
    · omega
    · exact dgs_byte _ x h
    · exact nmL_byte t x h
/-- The bytes of a text. -/
def stB (s : ByteArray) : List Int := s.data.toList.map fun b => (b.toNat : Int)
theorem stB_len (s : ByteArray) : (stB s).length = s.size := by unfold stB; rw [List.length_map, Array.length_toList]; rfl
theorem stB_byte (s : ByteArray) : ∀ x ∈ stB s, 0 ≤ x ∧ x < 256 := by
  intro x hx
  unfold stB at hx
  rw [List.mem_map] at hx
  obtain ⟨b, _, rfl⟩ := hx
  have := b.toNat_lt
  omega
theorem stB_cells (s : ByteArray) : Lib.strCells s = U8 (stB s) := by simp [Lib.strCells, stB, U8]
theorem lnL_byte (s : ByteArray) (ns : List Int) : ∀ x ∈ lnL (stB s) ns, 0 ≤ x ∧ x < 256 := by
  intro x hx
  unfold lnL at hx
  rw [List.mem_append, List.mem_append] at hx
  rcases hx with (hx | hx) | hx
  · exact stB_byte s x hx
  · exact nmL_byte ns x hx
  · simp at hx; omega
theorem lnL_len (s : ByteArray) (ns : List Int) (h : nsOk ns) : (lnL (stB s) ns).length ≤ s.size + 8 * ns.length + 1 := by
  unfold lnL
  rw [List.length_append, List.length_append, stB_len]
  have := nmL_len ns h
  simp
  omega
/-- append, as it runs: bytes behind a row of its own. -/
theorem run_app_own (w : World) (base : Nat) (ty : TypeId) (v : Value) (n : Nat) (xs : List Int) (hown : w.ownsRow base 5 1 v n (U8 xs)) (ao : Option Addr) (m c : Nat) (ys : List Int) (hb : Bs w ao m c ys) (hn : n + m ≤ 1048576) (hbase : base ≤ w.heap.size) (ha : ao ≠ none) :
    ∃ v' w', (Builtin.append_ #[22, 22] ty #[v, .slice ao m c]).run Tryd.prog w = .ok v' w' ∧ w'.ownsRow base 5 1 v' (n + m) (U8 (xs ++ ys)) ∧ w.grownBy w' v.ownBlock := by
  obtain ⟨i0, hi, hz0, hz1, hz2⟩ := info_parts Tryd.info5
  obtain ⟨hcap, hl, hc, _, hb⟩ := hb
  cases ao with
  | none => exact absurd rfl ha
  | some ad =>
    obtain ⟨v', w', h1, h2, h3, _⟩ := run_append_own (P := Tryd.prog) w base 22 ty 5 i0 (.int .u8 0) 1 1 Tryd.underlying22 hi hz0 hz1 hz2 rfl (by decide) v n (U8 xs) hown ad m c (U8 ys) (by simp [hl]) (by
      intro j u hj
      rcases hb with hb | ⟨b, off, ha, _, hcell⟩
      · have hy : ys = [] := List.eq_nil_of_length_eq_zero (by omega)
        subst hy
        simp at hj
      · obtain rfl := Option.some.inj ha
        have hjl : j < m := by
          have := (List.getElem?_eq_some_iff.1 hj).1
          simpa [hl] using this
        rw [Addr.add_lit, hcell j hjl]
        have e : (U8 ys)[j]? = some (.int .u8 (ys.getD j 0)) := by simp [show j < ys.length by omega]
        rw [e] at hj
        exact hj) (ints_oneCell _ _) (by unfold maxLen; omega) (by omega) hbase
    exact ⟨v', w', h1, by simpa using h2, h3⟩
/-- Where the row of a value may lie: where another lies, or behind a point. -/
abbrev Nr (G : Option Nat) (Z : Nat) (v : Value) : Prop := ∀ k, v.ownBlock = some k → G = some k ∨ Z ≤ k
abbrev kz1 (d Z : Nat) (x : Int) : Kd := (some d, (fun l _ => .slice (some ⟨l, 0, none⟩) 1 1), fun l h w _ => Arr w l 5 [.int .u8 x] ∧ l < h ∧ Z ≤ l)
def Dz (Z n : Nat) (xs : List Int) (l h : Nat) (w : World) (v : Value) : Prop := w.ownsRow l 5 1 v n (U8 xs) ∧ In v l h ∧ Z ≤ l
def Da (base n : Nat) (xs : List Int) (_ _ : Nat) (w : World) (v : Value) : Prop := w.ownsRow base 5 1 v n (U8 xs)
theorem arr_gr {w w' : World} {g : Nat} {t : TypeId} {cs : List Value} {G : Option Nat} (h : Arr w g t cs) (hg : w.grownBy w' G) (hn : G ≠ some g) : Arr w' g t cs := by
  unfold Arr
  rw [hg.block g h.lt (fun e => hn e.symm)]
  exact h
theorem own_gr {w w' : World} {b e s n : Nat} {v : Value} {l : List Value} {G : Option Nat} (h : w.ownsRow b e s v n l) (hg : w.grownBy w' G) (hn : ∀ k, v.ownBlock = some k → G ≠ some k) : w'.ownsRow b e s v n l := by
  refine ⟨h.1, ?_⟩
  rcases h.2 with hn0 | ⟨g, cap, cur, rfl, hb, hgg, rest⟩
  · exact .inl hn0
  · refine .inr ⟨g, cap, cur, rfl, hb, ?_, rest⟩
    rw [hg.block g (Array.getElem?_eq_some_iff.1 hgg).1 (fun e => hn g rfl e.symm)]
    exact hgg
end Go.Proofs.YtofflhhlacdgfaaDoor

/-
  What is proved here: plain facts on a block of memory that holds just given cells (an array), and how it stays; no program is spoken of, no condition; what the program's table says of the specification's arrays of sixteen, and the prime's parts; no condition; plain facts on parts that are set one by one; no condition; contracts of the specification's l4small and l4sub: a small number in parts, and the difference of two numbers of the field; what the program's table says of bytes and of ints, and plain facts on memory; no condition; a law for the walk on 'append' where the first slice is a row of ints that the call itself owns and the second is any slice of ints; the two together hold at most 2^40 ints; the contract of the specification's l4out: a number of the field into a new slice of ints; the contract of the specification's l4less: which of two numbers is less.
-/
import Derived.Test.YtoblilngppjmhaaDoorW9Fm
import Derived.Laws.Rows
import Derived.Laws.ResultCell
import Derived.Deep.QuietTactic
import Derived.BigQuiet
import Derived.Test.YtoblilngppjmhaaDoorProg
import Derived.BigRegion
import Derived.Laws.BitsLemmas
import Derived.Deep.MidRow
import Derived.Deep.RegionHeld3
import Derived.Laws.AppendOwnNone
namespace Go.Proofs.YtoblilngppjmhaaDoor
open Go.RowKit

/-- Block g holds just these cells; none is frozen. -/
def Arr (w : World) (g : Nat) (t : TypeId) (cs : List Value) : Prop := w.heap[g]? = some (.cells cs.toArray t (0, 0))

section
variable {w w' : World} {g : Nat} {t : TypeId} {cs : List Value}

theorem Arr.lt (h : Arr w g t cs) : g < w.heap.size := (Array.getElem?_eq_some_iff.1 h).1
theorem Arr.cell (h : Arr w g t cs) (j : Nat) : w.cell? ⟨g, j, none⟩ = cs[j]? := by
  rw [cell_of_row w g j _ t _ h]; simp
theorem Arr.i64 {xs : List Int} (h : Arr w g t (I64 xs)) (j : Nat) (hj : j < xs.length) : w.cell? ⟨g, j, none⟩ = some (.int .i64 (xs.getD j 0)) := by
  rw [h.cell j]; simp [hj]
theorem Arr.frozen (h : Arr w g t cs) (j : Nat) : w.frozen? ⟨g, j, none⟩ = false := frozen_of_row w g j _ t h
theorem Arr.set (h : Arr w g t cs) (j : Nat) (v : Value) : Arr (w.setCell ⟨g, j, none⟩ v) g t (cs.set j v) := by
  have := heap_setCell_same w g j _ t v h
  unfold Arr
  rw [this]; simp
theorem Arr.other (h : Arr w g t cs) (p : Addr) (v : Value) (hne : g ≠ p.block) : Arr (w.setCell p v) g t cs := by
  unfold Arr
  rw [heap_setCell_other w p g v hne]; exact h
theorem Arr.row (h : Arr w g t cs) (ds : List Value) : Arr (w.setRow g ds.toArray) g t ds := setRow_heap w g _ _ t _ h
theorem Arr.rowOther (h : Arr w g t cs) (k : Nat) (ds : Array Value) (hne : g ≠ k) : Arr (w.setRow k ds) g t cs := (setRow_other w k g ds hne).trans h
theorem Arr.below {B : Nat} (h : Arr w g t cs) (hb : Below B w w') (hB : g < B) : Arr w' g t cs := by
  unfold Arr; rw [hb.block g hB]; exact h
theorem Arr.kept (h : Arr w g t cs) (hb : Below w.heap.size w w') : Arr w' g t cs := h.below hb h.lt
theorem Arr.new (w : World) (cs : List Value) (t : TypeId) : Arr (w.alloc (.cells cs.toArray t)) w.heap.size t cs := heap_alloc_new w _
theorem Arr.alloc (h : Arr w g t cs) (o : Obj) : Arr (w.alloc o) g t cs := (heap_alloc_old w o h.lt).trans h
theorem Arr.drew (h : Arr w g t cs) : Arr w.drew g t cs := h
theorem Arr.drewN (h : Arr w g t cs) (q : Nat) : Arr (w.drewN q) g t cs := h
end

theorem setRow_below {B : Nat} {w w' : World} (hb : Below B w w') (g : Nat) (cs : Array Value) (hg : B ≤ g) : Below B w (w'.setRow g cs) :=
  ⟨hb.os, hb.tape, hb.output, by simpa using hb.size, fun i hi => (setRow_other w' g i cs (by omega)).trans (hb.block i hi)⟩

theorem bel_dN {B : Nat} {w w' : World} (hb : Below B w w') (q : Nat) : Below B w (w'.drewN q) := ⟨hb.os, hb.tape, hb.output, hb.size, hb.block⟩

theorem results_row_tmp {P : Program} {fn : Func} {p u : Tmp} {ty : TypeId} {w : World} {g : Nat} {t : TypeId} {cs : List Value} {d : TypeDesc} {v : Value} {tmps : Array Value} (h : fn.results = #[.cell p ty, .tmp u])
    (hp : tmps.getD p undef = .pointer (some ⟨g, 0, none⟩)) (hv : tmps.getD u undef = v) (hg : Arr w g t cs) (hu : P.underlying ty = some d) (hd : (match d with | .struct _ | .array _ _ => true | _ => false) = true) (hi : (P.info? ty).map (·.size) = some cs.length) :
    (results fn tmps).run P w = .ok (.tuple #[.agg cs.toArray, v]) w := by
  have hl := run_loadVar_row (P := P) w g t ty cs.toArray (0, 0) d hg hu hd (by simpa using hi)
  rw [results_cell_tmp h, hp, hv]
  simp [asAddr, Result.andThen, hl]

end Go.Proofs.YtoblilngppjmhaaDoor
namespace Go.Proofs.YtoblilngppjmhaaDoor
open Go.RowKit
set_option maxRecDepth 100000

theorem infoE : (Tryd.prog.info? 82).map (·.size) = some 16 := by kernel_rfl
theorem infoI : (Tryd.prog.info? 3).map (·.size) = some 1 := by kernel_rfl
/-- The prime's parts. -/
def PL : List Int := [65517, 65535, 65535, 65535, 65535, 65535, 65535, 65535, 65535, 65535, 65535, 65535, 65535, 65535, 65535, 32767]
theorem PL_len : PL.length = 16 := rfl
theorem PL_val : val PL = P25519 := by decide
theorem PL_lm : Lm PL := by unfold Lm PL; decide

abbrev Z16 : List Int := [0, 0, 0, 0, 0, 0, 0, 0, 0, 0, 0, 0, 0, 0, 0, 0]

end Go.Proofs.YtoblilngppjmhaaDoor
namespace Go.Proofs.YtoblilngppjmhaaDoor
open Go.RowKit
set_option maxRecDepth 100000

theorem set_app {f a : List Int} {k : Nat} (hf : f.length = k) (hk : k < a.length) (v : Int) : (I64 (f ++ a.drop k)).set k (.int .i64 v) = I64 ((f ++ [v]) ++ a.drop (k + 1)) := by
  subst hf
  have e : a.drop f.length = a.getD f.length 0 :: a.drop (f.length + 1) := by
    rw [List.drop_eq_getElem_cons hk]; simp [hk]
  rw [e]
  simp [List.set_append_right]
theorem get_app {f a : List Int} {k : Nat} (hf : f.length = k) : (f ++ a.drop k).getD k 0 = a.getD k 0 := by
  subst hf
  simp [List.getD, List.getElem?_append_right]
theorem len_app {f a : List Int} {k : Nat} (hf : f.length = k) (hk : k ≤ a.length) : (f ++ a.drop k).length = a.length := by
  simp [hf]; omega
theorem take_app (a : List Int) (k : Nat) (h : k < a.length) : a.take (k + 1) = a.take k ++ [a.getD k 0] := by
  rw [List.take_add_one, List.getD, List.getElem?_eq_getElem h]; rfl
theorem i64_low16 {x : Int} (h0 : 0 ≤ x) (h1 : x < 9223372036854775808) : bits .and .i64 x 65535 = x % 65536 :=
  bits_mask .i64 63 (by decide) (fun n a b => by rw [IntKind.wrap_i64]; omega) 16 (by decide) x h0 h1
theorem i64_low15 {x : Int} (h0 : 0 ≤ x) (h1 : x < 9223372036854775808) : bits .and .i64 x 32767 = x % 32768 :=
  bits_mask .i64 63 (by decide) (fun n a b => by rw [IntKind.wrap_i64]; omega) 15 (by decide) x h0 h1

theorem cpc_sub {a b : List Int} (ha : Lm a) (hb : Lm b) : ∀ {c : Int}, (c = 0 ∨ c = -1) → (cpc (List.zipWith (fun x y => x - y) a b) c = 0 ∨ cpc (List.zipWith (fun x y => x - y) a b) c = -1) := by
  induction a generalizing b with
  | nil => intro c hc; simpa [cpc] using hc
  | cons x a ih =>
    cases b with
    | nil => intro c hc; simpa [cpc] using hc
    | cons y b =>
      intro c hc
      have hx := ha x (by simp)
      have hy := hb y (by simp)
      simp only [List.zipWith_cons_cons, cpc]
      exact ih (fun z hz => ha z (by simp [hz])) (fun z hz => hb z (by simp [hz])) (by omega)
theorem gD_lm {a : List Int} (h : Lm a) (k : Nat) : 0 ≤ a.getD k 0 ∧ a.getD k 0 < 65536 := by
  by_cases hk : k < a.length
  · have : a.getD k 0 ∈ a := by rw [List.getD_eq_getElem?_getD, List.getElem?_eq_getElem hk]; exact List.getElem_mem _
    exact h _ this
  · rw [List.getD_eq_getElem?_getD, List.getElem?_eq_none (by omega)]; simp

theorem lm_of {xs : List Int} (hl : xs.length = 16) (h : ∀ j, j < 16 → 0 ≤ xs.getD j 0 ∧ xs.getD j 0 < 65536) : Lm xs := by
  intro x hx
  obtain ⟨j, hj⟩ := List.mem_iff_getElem?.1 hx
  have hjl := (List.getElem?_eq_some_iff.1 hj).1
  have := h j (by omega)
  rw [List.getD, hj] at this
  simpa using this

theorem arr_range {W : World} {g : Nat} {t : TypeId} {cs : List Value} (h : Arr W g t cs) : W.rangeAt g 0 cs := by
  intro j v hj
  rw [Nat.zero_add, h.cell j]
  exact hj
end Go.Proofs.YtoblilngppjmhaaDoor
namespace Go.Proofs.YtoblilngppjmhaaDoor
open Go.RowKit
set_option maxRecDepth 100000

theorem list16 {l : List Int} (h : l.length = 16) : ∃ a0 a1 a2 a3 a4 a5 a6 a7 a8 a9 a10 a11 a12 a13 a14 a15, l = [a0, a1, a2, a3, a4, a5, a6, a7, a8, a9, a10, a11, a12, a13, a14, a15] := by
  match l, h with
  | [a0, a1, a2, a3, a4, a5, a6, a7, a8, a9, a10, a11, a12, a13, a14, a15], _ => exact ⟨a0, a1, a2, a3, a4, a5, a6, a7, a8, a9, a10, a11, a12, a13, a14, a15, rfl⟩
theorem lim_snoc (k : Nat) (x : Int) : lim (k + 1) x = lim k x ++ [x / 65536 ^ k % 65536] := by
  induction k generalizing x with
  | zero => simp [lim]
  | succ k ih =>
    rw [lim, ih, lim, Int.pow_succ, Int.mul_comm (65536 ^ k) 65536, ← Int.ediv_ediv_of_nonneg (by omega)]
    rfl
theorem lim_add (m n : Nat) (x : Int) : lim (m + n) x = lim m x ++ lim n (x / 65536 ^ m) := by
  induction m generalizing x with
  | zero => simp [lim]
  | succ m ih =>
    rw [Nat.add_right_comm, lim, ih, lim, Int.pow_succ, Int.mul_comm (65536 ^ m) 65536, ← Int.ediv_ediv_of_nonneg (by omega)]
    rfl
theorem lim_small {n : Int} (h0 : 0 ≤ n) (h1 : n < 18446744073709551616) : lim 4 n ++ Z16.drop 4 = lim 16 n := by
  rw [show 16 = 4 + 12 from rfl, lim_add, show n / 65536 ^ 4 = 0 from Int.ediv_eq_zero_of_lt h0 (by simpa using h1)]
  rfl

set_option maxHeartbeats 1000000 in
theorem specSmall (n : Int) (w : World) (h0 : 0 ≤ n) (h1 : n < 9223372036854775808) :
    Calls Tryd.prog 112 #[.int .i64 n] w fun e w' => e = .returned (.agg (I64 (lim 16 n)).toArray) ∧ Below w.heap.size w w' := by
  have hls := lim_small h0 (by omega)
  obtain ⟨W, hW⟩ : ∃ W, W = (w.alloc (.cells (I64 Z16).toArray 82)).alloc (.cells (I64 Z16).toArray 82) := ⟨_, rfl⟩
  have g0 : Arr W w.heap.size 82 (I64 Z16) := by rw [hW]; exact (Arr.new w (I64 Z16) _).alloc _
  have g1 : Arr W (w.heap.size + 1) 82 (I64 (lim 0 n ++ Z16.drop 0)) := by
    rw [hW]
    have := Arr.new (w.alloc (.cells (I64 Z16).toArray 82)) (I64 Z16) 82
    rw [World.size_alloc] at this
    exact this
  have gB : Below w.heap.size w W := by rw [hW]; exact ((Below.refl _ _).alloc (Nat.le_refl _) _).alloc (by simp) _
  have HLS : Hid _ := hls
  clear hls
  go_enter Tryd.func112, Tryd.ntmps112
  go_wp2
  go_loopw [0, 4] (fun v i wr => ∃ (k : Nat) (m : Int), k ≤ 4 ∧ v = .int .i64 m ∧ m = n / 65536 ^ k ∧ i = .int .i64 k ∧ Arr wr w.heap.size 82 (I64 Z16) ∧ Arr wr (w.heap.size + 1) 82 (I64 (lim k n ++ Z16.drop k)) ∧ Below w.heap.size w wr) (fun _ i _ => 4 - (intOf i).toNat)
  case atStart => exact ⟨0, n, by omega, rfl, by simp, rfl, hW ▸ g0, hW ▸ g1, hW ▸ gB⟩
  case round =>
    clear g0 g1 gB hW
    obtain ⟨k, m, hk, rfl, hm, rfl, g0, g1, gB⟩ := hrel
    have hfl := lim_len k n
    have hm0 : 0 ≤ m ∧ m ≤ n := by
      rw [hm]
      exact ⟨Int.ediv_nonneg h0 (Int.le_of_lt (pow_pos16 k)), Int.ediv_le_self _ h0⟩
    by_cases hlt : k < 4
    · obtain ⟨u, hu⟩ : ∃ u, wr.cell? ⟨w.heap.size + 1, k, none⟩ = some u := by
        rw [g1.cell k]
        exact ⟨_, List.getElem?_eq_getElem (by simp [hfl]; omega)⟩
      have hfz := g1.frozen k
      have g1' := g1.set k (.int .i64 (m % 65536))
      rw [set_app hfl (show k < Z16.length by show k < 16; omega), hm, ← lim_snoc, ← hm] at g1'
      have g0' := g0.other ⟨w.heap.size + 1, k, none⟩ (.int .i64 (m % 65536)) (by simp)
      have gB' := gB.setCell (p := ⟨w.heap.size + 1, k, none⟩) (by simp) (.int .i64 (m % 65536))
      have s1 : bits .and .i64 m 65535 = m % 65536 := i64_low16 hm0.1 (by omega)
      have hmn : m / 65536 = n / 65536 ^ (k + 1) := by rw [hm, Int.pow_succ, ← Int.ediv_ediv_of_nonneg (Int.le_of_lt (pow_pos16 k))]
      have hk4 : (k : Int) < 4 := by omega
      have hk16 : (k : Int) < 16 := by omega
      have H0 : Hid _ := g0'
      have H1 : Hid _ := g1'
      have HB : Hid _ := gB'
      have HM : Hid _ := hmn
      clear g0' g1' gB' hmn g0 g1 gB hm
      go_wp2
      go_roundw
      case rel => exact ⟨k + 1, m / 65536, by omega, rfl, HM.out, by go_num, H0.out, H1.out, HB.out⟩
      case measure => simp [intOf]; omega
    · obtain rfl : k = 4 := by omega
      rw [HLS.out] at g1
      have hl : (lim 16 n).length = 16 := lim_len _ _
      obtain ⟨y, hy⟩ : ∃ y, y = lim 16 n := ⟨_, rfl⟩
      rw [← hy] at g1 hl
      have HY : Hid _ := hy
      have g0' := g0.row (I64 y)
      have gB' := setRow_below gB w.heap.size (I64 y).toArray (Nat.le_refl _)
      clear hy hm hfl
      go_wp2_with (first
        | (refine wpList_load_row rfl 82 _ rfl (w.heap.size + 1) rfl 82 (I64 y).toArray (0, 0) _ g1 Tryd.underlying82 rfl (by simpa [hl] using infoE) ?_)
        | (refine wpList_store_row rfl 82 _ _ rfl w.heap.size (I64 y).toArray rfl rfl 82 _ g0 (by simpa [hl] using infoE) (by simp [hl]) (by simp [Value.oneCell']) ?_))
      exact bodyPost_ret (results_cell_row rfl _ _ w.heap.size 82 (I64 y).toArray (0, 0) _ rfl g0' Tryd.underlying82 rfl (by simpa [hl] using infoE)) rfl ⟨by rw [HY.out], gB'⟩
end Go.Proofs.YtoblilngppjmhaaDoor
namespace Go.Proofs.YtoblilngppjmhaaDoor
open Go.RowKit

theorem Tryd.info5 : (Tryd.prog.info? 5).map (fun i => (i.zero, i.size, i.bytes)) = some (some (.int .u8 0), 1, 1) := by kernel_rfl
theorem Tryd.info3 : (Tryd.prog.info? 3).map (fun i => (i.zero, i.size, i.bytes)) = some (some (.int .i64 0), 1, 8) := by kernel_rfl
theorem bel_drewN (w : World) (q : Nat) : Below w.heap.size w (w.drewN q) := ⟨rfl, rfl, rfl, Nat.le_refl _, fun _ _ => rfl⟩
theorem grown_trans {a b c : World} {row : Option Nat} (h : a.grownBy b row) (k : b.grownBy c row) : a.grownBy c row :=
  ⟨k.os.trans h.os, k.tape.trans h.tape, k.output.trans h.output, Nat.le_trans h.size k.size, fun i hi hne => (k.block i (Nat.lt_of_lt_of_le hi h.size) hne).trans (h.block i hi hne)⟩
end Go.Proofs.YtoblilngppjmhaaDoor
namespace Go.Proofs.YtoblilngppjmhaaDoor
open Go.RowKit

theorem wpl_append_is {w : World} {ops : Array Oper} {rest : List Oper} {o : Oper} {a : Act} {Q : Exit → Act → World → Prop} (hgd : o.guard = none) (s x : Operand)
    (ho : o.op = .call { callee := .builtin .append, args := #[s, x], argTypes := #[23, 23] })
    (base : Nat) (v : Value) (n : Nat) (xs : List Int) (hs : a.eval s = v) (ao : Option Addr) (m c : Nat) (ys : List Int) (hx : a.eval x = .slice ao m c)
    (hown : w.ownsRow base 3 1 v n (I64 xs)) (hb : Is w ao m c ys) (hlen : n + m ≤ 1099511627776) (hbase : base ≤ w.heap.size)
    (h : ∀ v' w', w'.ownsRow base 3 1 v' (n + m) (I64 (xs ++ ys)) → w.grownBy w' v.ownBlock → (v' = .slice none 0 0 ↔ v = .slice none 0 0 ∧ m = 0) → wpList Tryd.prog ops Q rest (a.put o.dst v') w') :
    wpList Tryd.prog ops Q (o :: rest) a w := by
  obtain ⟨i0, hi, hz0, hz1, hz2⟩ := info_parts Tryd.info3
  obtain ⟨hcap, hl, hc, _, hb⟩ := hb
  cases ao with
  | none =>
    have hc0 := hcap rfl
    subst hc0
    have hm : m = 0 := by omega
    subst hm
    have hy : ys = [] := List.eq_nil_of_length_eq_zero hl
    subst hy
    exact wpList_append_own_none hgd s x 23 ho base 3 i0 1 Tryd.underlying23 hi v n (I64 xs) hs hown hx
      (h v w (by simpa using hown) (World.grownBy.refl _ _) (by simp))
  | some ad =>
    refine wpList_append_own w hgd s x 23 ho base 3 i0 (.int .i64 0) 1 8 Tryd.underlying23 hi hz0 hz1 hz2 rfl (by decide) v n (I64 xs) hs hown ad m c (I64 ys) hx (by simp [hl]) ?_ (ints_oneCell _ _)
      (by unfold maxLen; omega) (by omega) hbase ?_
    · rcases hb with hb | ⟨b, off, ha, _, hcell⟩
      · intro j u hj
        have hy : ys = [] := List.eq_nil_of_length_eq_zero (by omega)
        subst hy
        simp at hj
      · obtain rfl := Option.some.inj ha
        intro j u hj
        have hjl : j < m := by
          have := (List.getElem?_eq_some_iff.1 hj).1
          simpa [hl] using this
        rw [Addr.add_lit, hcell j hjl]
        have e : (I64 ys)[j]? = some (.int .i64 (ys.getD j 0)) := by simp [show j < ys.length by omega]
        rw [e] at hj
        exact hj
    · intro v' w' h1 h2 h3
      exact h v' w' (by simpa using h1) h2 h3

/-- One new cell, as a slice of one int. -/
theorem Is.one (w : World) (x : Int) (h0 : -9223372036854775808 ≤ x) (h1 : x ≤ 9223372036854775807) : Is (w.alloc (.cells #[.int .i64 x] 3)) (some ⟨w.heap.size, 0, none⟩) 1 1 [x] := by
  refine ⟨(fun h => by cases h), rfl, Nat.le_refl _, ?_, .inr ⟨w.heap.size, 0, rfl, by simp, ?_⟩⟩
  · intro y hy; simp at hy; omega
  · intro j hj
    have : j = 0 := by omega
    subst this
    rw [World.cell?_alloc_at _ _ _ _ rfl]; rfl

end Go.Proofs.YtoblilngppjmhaaDoor
namespace Go.Proofs.YtoblilngppjmhaaDoor
open Go.RowKit
set_option maxRecDepth 100000

theorem own_other' {w : World} {b e s n : Nat} {v : Value} {xs : List Value} (h : w.ownsRow b e s v n xs) (p : Addr) (u : Value) (hp : p.block < b) : (w.setCell p u).ownsRow b e s v n xs := by
  refine ⟨h.1, ?_⟩
  rcases h.2 with hn | ⟨g, cap, cur, rfl, hg, hgg, rest⟩
  · exact .inl hn
  · refine .inr ⟨g, cap, cur, rfl, hg, ?_, rest⟩
    rw [heap_setCell_other w p g u (by omega)]
    exact hgg


set_option maxHeartbeats 1000000 in
theorem specOut (l : List Int) (w : World) (hl : l.length = 16) (hm : Lm l) :
    Calls Tryd.prog 129 #[.agg (I64 l).toArray] w fun e w' => ∃ a c, e = .returned (.agg #[.slice a 16 c]) ∧ w'.ownsRow w.heap.size 3 1 (.slice a 16 c) 16 (I64 l) ∧ Below w.heap.size w w' := by
  obtain ⟨A, hA⟩ : ∃ A, A = (I64 l).toArray := ⟨_, rfl⟩
  rw [← hA]
  obtain ⟨W, hW⟩ : ∃ W, W = (w.alloc (.cells A 82)).alloc (.cells #[.slice none 0 0] 25) := ⟨_, rfl⟩
  have g0 : Arr W w.heap.size 82 (I64 l) := by rw [hW, hA]; exact (Arr.new w (I64 l) _).alloc _
  have g1 : Arr W (w.heap.size + 1) 25 [.slice none 0 0] := by
    rw [hW]
    have := Arr.new (w.alloc (.cells A 82)) [.slice none 0 0] 25
    rw [World.size_alloc] at this
    exact this
  have gB : Below w.heap.size w W := by rw [hW]; exact ((Below.refl _ _).alloc (Nat.le_refl _) _).alloc (by simp) _
  clear hA
  go_enter Tryd.func129, Tryd.ntmps129
  go_wp2
  go_loopw [3, 4] (fun v i wr => ∃ k : Nat, k ≤ 16 ∧ i = .int .i64 k ∧ wr.ownsRow (w.heap.size + 2) 3 1 v k (I64 (l.take k)) ∧ Arr wr w.heap.size 82 (I64 l) ∧ Arr wr (w.heap.size + 1) 25 [.slice none 0 0] ∧ Below w.heap.size w wr ∧ w.heap.size + 2 ≤ wr.heap.size) (fun _ i _ => 16 - (intOf i).toNat)
  case atStart => exact ⟨0, by omega, rfl, by simpa using World.ownsRow_nil _ _ _ _, hW ▸ g0, hW ▸ g1, hW ▸ gB, by simp⟩
  case round =>
    clear g0 g1 gB hW
    obtain ⟨k, hk, rfl, ho, g0, g1, gB, gs⟩ := hrel
    by_cases hlt : k < 16
    · obtain ⟨x, hx⟩ : ∃ x, x = l.getD k 0 := ⟨_, rfl⟩
      have hck := g0.i64 k (by omega)
      rw [← hx] at hck
      have hxb := gD_lm hm k
      rw [← hx] at hxb
      have hts := take_app l k (by omega)
      rw [← hx] at hts
      have HTS : Hid _ := hts
      have hk16 : (k : Int) < 16 := by omega
      have hk0 : (0 : Int) ≤ (k : Int) := by omega
      clear hts hx
      go_wp2_with (at_builtin; refine wpl_append_is rfl _ _ rfl (w.heap.size + 2) _ k (l.take k) rfl (some ⟨wr.heap.size, 0, none⟩) 1 1 [x] rfl (ho.alloc _) ?_ ?_ ?_ ?_)
      · exact Is.one _ _ (by omega) (by omega)
      · omega
      · first | omega | (simp; omega)
      intro v' w' h1 h2 _
      have hbA : Below (w.heap.size + 2) wr w' := ((Below.refl _ _).alloc (by omega) _).grown h2 (by simp; omega) (fun j hj => (ho.lt j hj).1)
      have g0' := g0.below hbA (by omega)
      have g1' := g1.below hbA (by omega)
      have gB' := gB.trans (hbA.mono (by omega))
      have gs' := Nat.le_trans gs hbA.size
      have HR : Hid (w'.ownsRow (w.heap.size + 2) 3 1 v' (k + 1) (I64 (l.take (k + 1)))) := by
        unfold Hid
        rw [HTS.out]; simpa using h1
      clear h1 h2 ho g0 g1 gB hbA HTS hck
      go_wp2
      go_roundw
      case rel => exact ⟨k + 1, by omega, by go_num, HR.out, g0', g1', gB', gs'⟩
      case measure => simp [intOf]; omega
    · obtain rfl : k = 16 := by omega
      rw [List.take_of_length_le (by omega)] at ho
      obtain ⟨a, c, rfl, _, _⟩ := Is.own ho (fun x hx => by have := hm x hx; omega)
      have c1 : wr.cell? ⟨w.heap.size + 1, 0, none⟩ = some (.slice none 0 0) := g1.cell 0
      have hf1 := g1.frozen 0
      have g1' := g1.set 0 (.slice a 16 c)
      have gB' := gB.setCell (p := ⟨w.heap.size + 1, 0, none⟩) (by simp) (.slice a 16 c)
      have ho' := own_base (own_other' ho ⟨w.heap.size + 1, 0, none⟩ (.slice a 16 c) (by show w.heap.size + 1 < w.heap.size + 2; omega)) (show w.heap.size ≤ w.heap.size + 2 by omega)
      have G1 : Hid _ := g1'
      have GB : Hid _ := gB'
      have HO : Hid _ := ho'
      clear g1' gB' ho' g0 g1 gB ho
      go_wp2
      exact bodyPost_ret (results_cell_row rfl _ _ (w.heap.size + 1) 25 _ (0, 0) _ rfl G1.out Tryd.underlying25 rfl (by kernel_rfl)) rfl ⟨a, c, rfl, HO.out, GB.out⟩
end Go.Proofs.YtoblilngppjmhaaDoor
namespace Go.Proofs.YtoblilngppjmhaaDoor
open Go.RowKit
set_option maxRecDepth 100000

set_option maxHeartbeats 1000000 in
theorem specLess (a b : List Int) (w : World) (ha : a.length = 16) (hb : b.length = 16) (la : Lm a) (lb : Lm b) :
    Calls Tryd.prog 119 #[.agg (I64 a).toArray, .agg (I64 b).toArray] w fun e w' => e = .returned (.bool (decide (val a < val b))) ∧ Below w.heap.size w w' := by
  obtain ⟨A, hA⟩ : ∃ A, A = (I64 a).toArray := ⟨_, rfl⟩
  obtain ⟨B, hB⟩ : ∃ B, B = (I64 b).toArray := ⟨_, rfl⟩
  rw [← hA, ← hB]
  obtain ⟨W, hW⟩ : ∃ W, W = (w.alloc (.cells A 82)).alloc (.cells B 82) := ⟨_, rfl⟩
  have h0 : Arr W w.heap.size 82 (I64 a) := by rw [hW, hA]; exact (Arr.new w (I64 a) _).alloc _
  have h1 : Arr W (w.heap.size + 1) 82 (I64 b) := by
    rw [hW, hB]
    have := Arr.new (w.alloc (.cells A 82)) (I64 b) 82
    rw [World.size_alloc] at this
    exact this
  have hBl : Below w.heap.size w W := by rw [hW]; exact ((Below.refl _ _).alloc (Nat.le_refl _) _).alloc (by simp) _
  obtain ⟨r, hr⟩ : ∃ r, r = decide (val a < val b) := ⟨_, rfl⟩
  rw [← hr]
  have HR : Hid _ := hr
  have HA : Hid _ := hA
  have HB' : Hid _ := hB
  clear hr hA hB
  go_enter Tryd.func119, Tryd.ntmps119
  go_wp2
  rw [← hW]
  clear hW
  go_loopw [5] (fun i wr => ∃ (k : Nat) (j : Int), k ≤ 16 ∧ j = 15 - (k : Int) ∧ i = .int .i64 j ∧ a.drop (16 - k) = b.drop (16 - k) ∧ Arr wr w.heap.size 82 (I64 a) ∧ Arr wr (w.heap.size + 1) 82 (I64 b) ∧ Below w.heap.size w wr) (fun i _ => (intOf i + 1).toNat)
  case atStart => exact ⟨0, 15, by omega, by omega, rfl, by rw [List.drop_eq_nil_of_le (by omega), List.drop_eq_nil_of_le (by omega)], h0, h1, hBl⟩
  case round =>
    clear h0 h1 hBl
    obtain ⟨k, j, hk, hj, rfl, hd, h0, h1, hBl⟩ := hrel
    by_cases hlt : k < 16
    · obtain ⟨i, rfl⟩ : ∃ i : Nat, j = (i : Int) := ⟨15 - k, by omega⟩
      have hi : 16 - k = i + 1 := by omega
      rw [hi] at hd
      obtain ⟨x, hx⟩ : ∃ x, x = a.getD i 0 := ⟨_, rfl⟩
      obtain ⟨y, hy⟩ : ∃ y, y = b.getD i 0 := ⟨_, rfl⟩
      have cx : wr.cell? ⟨w.heap.size, i, none⟩ = some (.int .i64 x) := by rw [hx]; exact h0.i64 i (by omega)
      have cy : wr.cell? ⟨w.heap.size + 1, i, none⟩ = some (.int .i64 y) := by rw [hy]; exact h1.i64 i (by omega)
      have hi16 : (i : Int) < 16 := by omega
      have hi0 : (0 : Int) ≤ (i : Int) := by omega
      have s5 : wrap64 ((i : Int) - 1) = (i : Int) - 1 := by unfold wrap64; omega
      have HJ : Hid _ := hj
      by_cases hne : x = y
      · have hd' : a.drop i = b.drop i := by
          rw [List.drop_eq_getElem_cons (by omega), List.drop_eq_getElem_cons (l := b) (by omega), hd]
          have e1 : a[i] = x := by rw [hx]; simp [show i < a.length by omega]
          have e2 : b[i] = y := by rw [hy]; simp [show i < b.length by omega]
          rw [e1, e2, hne]
        have HD : Hid (a.drop (16 - (k + 1)) = b.drop (16 - (k + 1))) := by unfold Hid; rw [show 16 - (k + 1) = i by omega]; exact hd'
        subst hne
        clear hd hd' hx hy hj hi
        go_wp2
        go_quiet (fail)
        go_wp2
        go_roundw
        case rel => exact ⟨k + 1, (i : Int) - 1, by omega, by have := HJ.out; omega, by go_num, HD.out, h0.drewN _, h1.drewN _, bel_dN hBl _⟩
        case measure => simp [intOf]
      · have hv := lt_at ha hb la lb (i := i) (by omega) hd (by rw [← hx, ← hy]; exact hne)
        rw [← hx, ← hy] at hv
        have hrr : decide (x < y) = r := by rw [HR.out]; simp only [hv]
        have HRR : Hid _ := hrr
        have hne' : (x != y) = true := by simp [hne]
        clear hd hx hy hj hi hv hrr
        go_wp2
        go_quiet (fail)
        go_wp2
        go_quiet (fail)
        go_wp2
        go_ret
        refine ⟨?_, bel_dN (bel_dN hBl _) _⟩
        rw [← HRR.out]
        rfl
    · obtain rfl : k = 16 := by omega
      have hj0 : ¬ (0 : Int) ≤ j := by omega
      have hab : a = b := by simpa using hd
      have hrf : r = false := by rw [HR.out, hab]; simp
      clear hd hj
      go_wp2
      go_ret
      exact ⟨rfl, hBl⟩
end Go.Proofs.YtoblilngppjmhaaDoor

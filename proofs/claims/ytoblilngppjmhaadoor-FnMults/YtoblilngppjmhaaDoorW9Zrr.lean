/-
  What is proved here: an append of zeros onto a row of bytes that the call itself owns; the bytes of one, as the laws make them; what the program's PtMul, PtBase, ScRead (of one) and ScAdd answer where their arguments are points and multipliers; where its variables hold what its text lays into them; contracts of the cursor of a draw (l1New, l1Byte): a new cursor over the code; a byte that is drawn is in 0 .. 255, and nothing but the cursor turns; for every code.
-/
import Derived.Test.YtoblilngppjmhaaDoorW9Qhl
import Derived.Lib.AppendZerosOnto
import Derived.Maps.AppendAt
import Derived.Test.YtoblilngppjmhaaDoorW9On0
import Derived.Test.YtoblilngppjmhaaDoorW9Oha
import Derived.Test.YtoblilngppjmhaaDoorW9Ohm
import Derived.Test.YtoblilngppjmhaaDoorW9Qhr
import Derived.Test.YtoblilngppjmhaaDoorW9Qcs
import Derived.Test.YtoblilngppjmhaaDoorW9Arr
import Derived.Deep.QuietTactic
import Derived.BigQuiet
import Derived.Laws.BitsLemmas
namespace Go.Proofs.YtoblilngppjmhaaDoor
open Go.RowKit
set_option maxRecDepth 100000

theorem zeroCells_list (k : Nat) : (Builtin.zeroCells (Value.int .u8 0).cells k).toList = U8 (List.replicate k 0) := by
  rw [show U8 (List.replicate k 0) = List.replicate k (Value.int .u8 0) by simp, List.eq_replicate_iff]
  refine ⟨by simp [Builtin.zeroCells, Value.cells], fun b hb => ?_⟩
  simp only [Builtin.zeroCells, Value.cells, Array.toList_map, List.mem_map] at hb
  obtain ⟨i, _, rfl⟩ := hb
  simp [Nat.mod_one]

theorem run_zeros (w : World) (base : Nat) (v : Value) (n : Nat) (xs : List Int) (k : Nat) (ty : TypeId) (hown : w.ownsRow base 5 1 v n (U8 xs)) (hk : 0 < k) (hkm : n + k ≤ 1000000) (hbase : base ≤ w.heap.size) :
    ∃ v' w', (Builtin.append_ #[22, 3] ty #[v, .int .i64 (k : Int)]).run Tryd.prog w = .ok v' w' ∧ w'.ownsRow base 5 1 v' (n + k) (U8 (xs ++ List.replicate k 0)) ∧ w.grownBy w' v.ownBlock := by
  obtain ⟨i0, hi, hz0, hz1, hz2⟩ := info_parts Tryd.info5
  have hzl := zeroCells_list k
  have hzs : (Builtin.zeroCells (Value.int .u8 0).cells k).size = k := by simp [size_zeroCells, Value.cells]
  have hxl : xs.length = n := by have := hown.1; simpa using this
  have grown : ∀ (old : Nat) (row : Option Nat), old < n + k →
      (w.drew.alloc (.cells ((U8 xs).toArray ++ Builtin.zeroCells (Value.int .u8 0).cells k ++ Builtin.zeroCells (Value.int .u8 0).cells (grownCap w (n + k) old 5 - (n + k))) 5)).ownsRow base 5 1
        (.slice (some ⟨w.heap.size, 0, none⟩) (n + k) (grownCap w (n + k) old 5)) (n + k) (U8 (xs ++ List.replicate k 0)) ∧
      w.grownBy (w.drew.alloc (.cells ((U8 xs).toArray ++ Builtin.zeroCells (Value.int .u8 0).cells k ++ Builtin.zeroCells (Value.int .u8 0).cells (grownCap w (n + k) old 5 - (n + k))) 5)) row := by
    intro old row ho
    have hge := grownCap_ge w (n + k) old 5
    have hcm : grownCap w (n + k) old 5 ≤ maxLen := grownCap_le_maxLen w (n + k) old 5 (by unfold maxLen; omega)
    refine ⟨⟨by simp [hxl], .inr ⟨w.heap.size, _, _, rfl, hbase, heap_alloc_new w.drew _, hge, hcm, ?_, ?_⟩⟩, ⟨rfl, rfl, rfl, by simp, fun k hk _ => heap_alloc_old w.drew _ hk⟩⟩
    · simp only [Array.size_append, List.size_toArray, size_zeroCells, Value.cells, List.length_map, hxl]
      simp
      omega
    · simp only [Array.toList_append, hzl]
      rw [show U8 (xs ++ List.replicate k 0) = U8 xs ++ U8 (List.replicate k 0) by simp]
      exact List.take_left' (by simp [hxl])
  rcases hown.2 with ⟨rfl, rfl⟩ | ⟨g, cap, cur, rfl, hbg, hg, hnc, hcm, hcs, htake⟩
  · have hx : xs = [] := List.eq_nil_of_length_eq_zero hxl
    subst hx
    have hr := Lib.run_append_grow_zeros w 22 3 ty 5 i0 (.int .u8 0) .i64 .i64 Tryd.underlying22 Tryd.underlying3 hi hz0 none 0 0 [] (run_firstCells_none w.drew i0.size 0 0 0) k hk (by omega) (by omega) (by omega) (by rw [hz2]; omega)
      (by rw [hz2]; exact growslice_fits (by omega) (by omega))
    have hgr := grown 0 (Value.ownBlock (.slice none 0 0)) (by omega)
    exact ⟨_, _, hr, by simpa using hgr.1, by simpa using hgr.2⟩
  · by_cases hroom : n + k ≤ cap
    · have hst := run_storeCells_at Tryd.prog g n 5 (U8 (List.replicate k 0)) 0 cur w hg (by simp; omega) (ints_oneCell _ _)
      simp only [Nat.add_zero] at hst
      have hst' := hst
      simp at hst'
      have hw : IntKind.i64.wrap (k : Int) = k := by rw [IntKind.wrap_i64]; omega
      have hneg : ¬ ((k : Int) < 0) := by omega
      have h48 : ¬ (281474976710656 < (k : Int)) := by omega
      have hk0 : k ≠ 0 := by omega
      refine ⟨.slice (some ⟨g, 0, none⟩) (n + k) cap, w.setRow g (cur.toList.take n ++ U8 (List.replicate k 0) ++ cur.toList.drop (n + (U8 (List.replicate k 0)).length)).toArray, ?_, ?_, ?_⟩
      · simp [Builtin.append_, run_underlying Tryd.underlying22, run_underlying Tryd.underlying3, sizeOf, typeInfo, zeroValue, hi, hz0, hz1, hz2, asInt, asIntOf, hw, hneg, h48, hk0, hroom, Addr.add_lit, hzl, hst']
      · refine ⟨by simp [hxl], .inr ⟨g, cap, _, rfl, hbg, setRow_heap w g cur _ 5 _ hg, hroom, hcm, ?_, ?_⟩⟩
        · simp only [List.size_toArray, List.length_append, List.length_take, List.length_drop, Array.length_toList, List.length_map, List.length_replicate]
          omega
        · simp only [Nat.mul_one] at htake ⊢
          rw [htake, show U8 (xs ++ List.replicate k 0) = U8 xs ++ U8 (List.replicate k 0) by simp]
          exact List.take_left' (by simp [hxl])
      · exact ⟨rfl, rfl, rfl, by simp, fun k _ hk => setRow_other w g k _ (fun e => hk (by simp [Value.ownBlock, e]))⟩
    · have hold := run_firstCells_some (P := Tryd.prog) w.drew i0.size n ⟨g, 0, none⟩ n cap (U8 xs) (by rw [hz1]; simp [hxl]) (hown.cells (g := g) rfl)
      have hr := Lib.run_append_grow_zeros w 22 3 ty 5 i0 (.int .u8 0) .i64 .i64 Tryd.underlying22 Tryd.underlying3 hi hz0 (some ⟨g, 0, none⟩) n cap (U8 xs) hold k hk (by omega) (by omega) (by omega) (by rw [hz2]; omega)
        (by rw [hz2]; exact growslice_fits (by omega) (by omega))
      have hgr := grown cap (Value.ownBlock (.slice (some ⟨g, 0, none⟩) n cap)) (by omega)
      exact ⟨_, _, hr, hgr.1, hgr.2⟩

end Go.Proofs.YtoblilngppjmhaaDoor
namespace Go.Proofs.YtoblilngppjmhaaDoor
open Go.RowKit
set_option maxRecDepth 100000

/-- The bytes of one. -/
def oneB : List Int := [1] ++ List.replicate 31 0
theorem oneB_byte : ∀ x ∈ oneB, 0 ≤ x ∧ x < 256 := by unfold oneB; decide
theorem oneB_rd : rdOkO oneB = true ∧ rdFO oneB = redO 1 := by decide
theorem oneB_val : val (redO 1) = 1 := by decide
theorem mk_one (w : World) (ty : TypeId) : ∃ v w', (Builtin.append_ #[22, 3] ty #[.slice (some ⟨w.heap.size, 0, none⟩) 1 1, .int .i64 31]).run Tryd.prog (w.alloc (.cells #[.int .u8 1] 5)) = .ok v w' ∧ (∃ a c, v = .slice a 32 c ∧ Bs w' a 32 c oneB) ∧ Below w.heap.size w w' := by
  have ho : (w.alloc (.cells #[.int .u8 1] 5)).ownsRow w.heap.size 5 1 (.slice (some ⟨w.heap.size, 0, none⟩) 1 1) 1 (U8 [1]) := World.ownsRow_lit (base := w.heap.size) (e := 5) (size := 1) w #[.int .u8 1] 1 (Nat.le_refl _) (by unfold maxLen; omega) rfl
  obtain ⟨v, w', hr, o', g'⟩ := run_zeros _ _ _ 1 [1] 31 ty ho (by omega) (by omega) (by simp)
  obtain ⟨a, c, e1, _, hi⟩ := Bs.own o' (show ∀ x ∈ [1] ++ List.replicate 31 (0 : Int), 0 ≤ x ∧ x < 256 from oneB_byte)
  exact ⟨v, w', hr, ⟨a, c, e1, hi⟩, ((Below.refl _ _).alloc (Nat.le_refl _) _).grown g' (by simp) (fun k hk => by cases hk; exact Nat.le_refl _)⟩
end Go.Proofs.YtoblilngppjmhaaDoor
namespace Go.Proofs.YtoblilngppjmhaaDoor
open Go.RowKit
set_option maxRecDepth 100000
set_option maxHeartbeats 4000000
set_option linter.unusedSectionVars false

theorem sc_int {l : List Int} (h : scOk l = true) : ∀ x ∈ l, -9223372036854775808 ≤ x ∧ x ≤ 9223372036854775807 := fun x hx => by have := ((scOk_iff l).1 h).2.1 x hx; omega
theorem sc_16 {l : List Int} (h : scOk l = true) : l.length = 16 := ((scOk_iff l).1 h).1
theorem qO_oN : qO = (oN : Int) := by decide
theorem sc_lt {l : List Int} (h : scOk l = true) : (val l).toNat < oN := by
  obtain ⟨_, h2, h3⟩ := (scOk_iff l).1 h
  have h1 := val_nonneg (fun x hx => (h2 x hx).1)
  rw [qO_oN] at h3
  omega
section
variable [NeZero pN]
theorem okPMul (a : Option Addr) (c : Nat) (b : Option Addr) (d : Nat) (P : KF × KF) (ak : Option Addr) (ck : Nat) (ks : List Int) (w : World) (h : PI w a c b d P) (hk : Is w ak 16 ck ks) (hP : On dK P) (hs : scOk ks = true) (hV : Vr w 4 (I64 PL)) (hD : Vr w 2 (I64 DL)) (hO : Vr w 3 (I64 OL)) :
    Calls Tryd.prog 23 #[.agg #[.slice a 16 c, .slice b 16 d], .agg #[.slice ak 16 ck]] w fun e w' => ∃ a1 c1 b1 d1, e = .returned (.tuple #[.agg #[.slice a1 16 c1, .slice b1 16 d1], .bool true]) ∧ PI w' a1 c1 b1 d1 (pMul dK ivK (val ks).toNat P) ∧ Below w.heap.size w w' := by
  refine (implPtMul a 16 c (cx P.1) b 16 d (cx P.2) ak 16 ck ks w h.x h.y hk hV hD hO).mono ?_
  rintro e w1 ⟨v, rfl, hv, hb⟩
  have e1 := okpt hP
  obtain ⟨m1, m2⟩ := pt_mul e1 (val ks).toNat (Nat.lt_trans (sc_253 hs) (by decide))
  rw [pt_back] at m1 m2
  rw [e1, hs] at hv ⊢
  obtain ⟨a1, c1, b1, d1, rfl, hp⟩ := PI.of (P := pMul dK ivK (val ks).toNat P) hv m1 m2
  exact ⟨a1, c1, b1, d1, rfl, hp, hb⟩
/-- A multiplier and one more, as lists. -/
theorem next_lists {ks : List Int} (h : scOk ks = true) : pMul dK ivK (val (redO (val ks + val (redO 1)))).toNat baseK = pAdd dK ivK (pMul dK ivK (val ks).toNat baseK) baseK := by
  have h2 := sc_lt h
  have h1 := val_nonneg (fun x hx => (((scOk_iff ks).1 h).2.1 x hx).1)
  have e : (val (redO (val ks + val (redO 1)))).toNat = ((val ks).toNat + 1) % oN := by
    have e0 : val ks + 1 = (((val ks).toNat + 1 : Nat) : Int) := by omega
    rw [val_redO, oneB_val, qO_oN, e0, ← Int.natCast_emod, Int.toNat_natCast]
  rw [e]
  exact mul_next _ h2
end
theorem okOne (a : Option Addr) (c : Nat) (w : World) (h : Bs w a 32 c oneB) (hO : Vr w 3 (I64 OL)) : Calls Tryd.prog 26 #[.slice a 32 c] w fun e w' => ∃ a1 c1, e = .returned (.tuple #[.agg #[.slice a1 16 c1], .bool true]) ∧ Is w' a1 16 c1 (redO 1) ∧ Below w.heap.size w w' := by
  refine (implScRead a 32 c oneB w h hO).mono ?_
  rintro e w1 ⟨v, rfl, ⟨a1, c1, rfl, o1⟩, hb⟩
  rw [oneB_rd.1]
  rw [oneB_rd.2] at o1 ⊢
  have i := is_of_own o1 (sc_int (redO_ok 1))
  rw [redO_len] at i ⊢
  exact ⟨a1, c1, rfl, i, hb⟩
theorem okScAdd (a : Option Addr) (c : Nat) (xs : List Int) (b : Option Addr) (d : Nat) (ys : List Int) (w : World) (hx : Is w a 16 c xs) (hy : Is w b 16 d ys) (h1 : scOk xs = true) (h2 : scOk ys = true) (hO : Vr w 3 (I64 OL)) :
    Calls Tryd.prog 27 #[.agg #[.slice a 16 c], .agg #[.slice b 16 d]] w fun e w' => ∃ a1 c1, e = .returned (.tuple #[.agg #[.slice a1 16 c1], .bool true]) ∧ Is w' a1 16 c1 (redO (val xs + val ys)) ∧ Below w.heap.size w w' := by
  refine (implScAdd a 16 c xs b 16 d ys w hx hy hO).mono ?_
  rintro e w1 ⟨v, rfl, ⟨a1, c1, rfl, o1⟩, hb⟩
  have e2 : sc2 (fun x y => x + y) xs ys = redO (val xs + val ys) := by unfold sc2; rw [h1, h2]; rfl
  rw [h1, h2]
  rw [e2] at o1 ⊢
  have i := is_of_own o1 (sc_int (redO_ok _))
  rw [redO_len] at i ⊢
  exact ⟨a1, c1, rfl, i, hb⟩
end Go.Proofs.YtoblilngppjmhaaDoor
namespace Go.Proofs.YtoblilngppjmhaaDoor
open Go.RowKit

/-- The cursor's block. -/
def Cur (W : World) (p : Nat) (a : Option Addr) (n c : Nat) : Prop :=
  ∃ (i : Nat) (h : Int), i ≤ n ∧ W.heap[p]? = some (.cells #[.slice a n c, .int .i64 i, .int .i64 h] 129 (0, 0))

/-- The code, apart from the cursor. -/
def Coded (W : World) (p : Nat) (a : Option Addr) (n c : Nat) (xs : List Int) : Prop := Bs W a n c xs ∧ n ≤ 9223372036854775807 ∧ ∀ b o s, a = some ⟨b, o, s⟩ → n ≠ 0 → b ≠ p

theorem grown_into {W Wr W' : World} {p : Nat} {row : Option Nat} (h : W.grownBy Wr (some p)) (hg : Wr.grownBy W' row) (hr : ∀ k, row = some k → W.heap.size ≤ k ∨ k = p) : W.grownBy W' (some p) :=
  ⟨hg.os.trans h.os, hg.tape.trans h.tape, hg.output.trans h.output, Nat.le_trans h.size hg.size, fun i hi hne => by
    rw [hg.block i (Nat.lt_of_lt_of_le hi h.size) (fun e => ?_)]
    · exact h.block i hi hne
    · rcases hr i e.symm with h1 | h1
      · omega
      · exact hne (by rw [h1])⟩

theorem Coded.grown {W W' : World} {p : Nat} {a : Option Addr} {n c : Nat} {xs : List Int} (h : Coded W p a n c xs) (hg : W.grownBy W' (some p)) : Coded W' p a n c xs := by
  obtain ⟨⟨h0, hl, hc, hby, h⟩, hm, hne⟩ := h
  refine ⟨⟨h0, hl, hc, hby, ?_⟩, hm, hne⟩
  rcases h with h | ⟨b, o, ha, hb, hcell⟩
  · exact .inl h
  · by_cases hn : n = 0
    · exact .inl hn
    · refine .inr ⟨b, o, ha, Nat.lt_of_lt_of_le hb hg.size, fun j hj => ?_⟩
      exact hg.cell (hcell j hj) (fun e => hne b o none ha hn (by simpa using e))

theorem and255 (z : Int) : 0 ≤ bits BinOp.and IntKind.i64 z 255 ∧ bits BinOp.and IntKind.i64 z 255 ≤ 255 := by
  have h : ((BitVec.ofInt 64 z &&& BitVec.ofInt 64 255).toNat) ≤ 255 := by
    rw [BitVec.toNat_and]
    exact Nat.le_trans Nat.and_le_right (by decide)
  have e : bits BinOp.and IntKind.i64 z 255 = IntKind.i64.wrap ((BitVec.ofInt 64 z &&& BitVec.ofInt 64 255).toNat : Int) := rfl
  rw [e, IntKind.wrap_i64]
  omega

set_option maxHeartbeats 1000000 in
theorem curNew (a : Option Addr) (n c : Nat) (xs : List Int) (w : World) (h : Bs w a n c xs) (hm : n ≤ 9223372036854775807) :
    Calls Tryd.prog 53 #[.slice a n c] w fun e w' => e = .returned (.pointer (some ⟨w.heap.size, 0, none⟩)) ∧ Cur w' w.heap.size a n c ∧ Coded w' w.heap.size a n c xs ∧ w'.heap.size = w.heap.size + 1 ∧ Below w.heap.size w w' := by
  have h' := h
  obtain ⟨_, hl, hc, hby, h⟩ := h
  go_enter Tryd.func53, Tryd.ntmps53
  go_wp2
  go_loop [3, 4] (fun hh i => ∃ (k : Nat) (H : Int), k ≤ n ∧ k ≤ 4000 ∧ i = .int .i64 k ∧ hh = .int .i64 H) (fun _ i => 4000 - (intOf i).toNat)
  case atStart => exact ⟨0, _, by omega, by omega, rfl, rfl⟩
  case round =>
    obtain ⟨k, H, hk, hk2, rfl, rfl⟩ := hrel
    by_cases hlt : (k : Int) < (n : Int)
    · by_cases hlt2 : (k : Int) < 4000
      · rcases h with h | ⟨b, o, rfl, hbs, hcell⟩
        · omega
        obtain ⟨x, hx⟩ : ∃ x, x = xs.getD k 0 := ⟨_, rfl⟩
        have hck : w.cell? ⟨b, o + k, none⟩ = some (.int .u8 x) := by rw [hx]; exact hcell k (by omega)
        clear hcell hx hby h'
        go_wp2
        go_round
        case rel => exact ⟨k + 1, _, by omega, by omega, by go_num, rfl⟩
        case measure => simp [intOf]; omega
      · go_wp2
        go_ret
        refine ⟨rfl, ⟨0, H, by omega, heap_alloc_new w _⟩, ⟨h'.below ((Below.refl _ _).alloc (Nat.le_refl _) _), hm, ?_⟩, by simp, (Below.refl _ _).alloc (Nat.le_refl _) _⟩
        intro b o s ha hn0
        rcases h with h | ⟨b', o', ha', hbs, _⟩
        · omega
        · rw [ha'] at ha
          simp only [Option.some.injEq, Addr.mk.injEq] at ha
          omega
    · go_wp2
      go_ret
      refine ⟨rfl, ⟨0, H, by omega, heap_alloc_new w _⟩, ⟨h'.below ((Below.refl _ _).alloc (Nat.le_refl _) _), hm, ?_⟩, by simp, (Below.refl _ _).alloc (Nat.le_refl _) _⟩
      intro b o s ha hn0
      rcases h with h | ⟨b', o', ha', hbs, _⟩
      · omega
      · rw [ha'] at ha
        simp only [Option.some.injEq, Addr.mk.injEq] at ha
        omega

theorem grown_drewN {w w1 : World} {r : Option Nat} (h : w.grownBy w1 r) (q : Nat) : w.grownBy (w1.drewN q) r := ⟨h.os, h.tape, h.output, h.size, h.block⟩

theorem cur_set2 {w : World} {p n c i : Nat} {a : Option Addr} {h : Int} (hp : w.heap[p]? = some (.cells #[.slice a n c, .int .i64 i, .int .i64 h] 129 (0, 0))) (H : Int) :
    (w.setCell ⟨p, 2, none⟩ (.int .i64 H)).heap[p]? = some (.cells #[.slice a n c, .int .i64 i, .int .i64 H] 129 (0, 0)) := by
  rw [heap_setCell_same w p 2 _ 129 (.int .i64 H) hp]; rfl
theorem cur_set1 {w : World} {p n c i : Nat} {a : Option Addr} {h : Int} (hp : w.heap[p]? = some (.cells #[.slice a n c, .int .i64 i, .int .i64 h] 129 (0, 0))) (I : Int) :
    (w.setCell ⟨p, 1, none⟩ (.int .i64 I)).heap[p]? = some (.cells #[.slice a n c, .int .i64 I, .int .i64 h] 129 (0, 0)) := by
  rw [heap_setCell_same w p 1 _ 129 (.int .i64 I) hp]; rfl
theorem cur_grown2 (w : World) (p : Nat) (u : Value) (j : Nat) : w.grownBy (w.setCell ⟨p, j, none⟩ u) (some p) :=
  ⟨rfl, rfl, rfl, by simp, fun k _ hk => heap_setCell_other w ⟨p, j, none⟩ k u (fun e => hk (by simp [e]))⟩

set_option maxHeartbeats 1000000 in
theorem curByte (p : Nat) (a : Option Addr) (n c : Nat) (xs : List Int) (w : World) (hcur : Cur w p a n c) (hcode : Coded w p a n c xs) :
    Calls Tryd.prog 81 #[.pointer (some ⟨p, 0, none⟩)] w fun e w' => ∃ x : Int, e = .returned (.int .i64 x) ∧ 0 ≤ x ∧ x ≤ 255 ∧ Cur w' p a n c ∧ w.grownBy w' (some p) := by
  obtain ⟨i, h, hin, hp⟩ := hcur
  obtain ⟨⟨h0, hl, hc, hby, hb⟩, hm, hne⟩ := hcode
  have c0 : w.cell? ⟨p, 0, none⟩ = some (.slice a n c) := by simp [World.cell?, hp]
  have c1 : w.cell? ⟨p, 1, none⟩ = some (.int .i64 i) := by simp [World.cell?, hp]
  have c2 : w.cell? ⟨p, 2, none⟩ = some (.int .i64 h) := by simp [World.cell?, hp]
  have f1 : w.frozen? ⟨p, 1, none⟩ = false := by simp [World.frozen?, hp]
  have f2 : w.frozen? ⟨p, 2, none⟩ = false := by simp [World.frozen?, hp]
  go_enter Tryd.func81, Tryd.ntmps81
  go_wp2
  clear c2
  generalize wrap64 (wrap64 (h * 6364136223846793005) + 1442695040888963407) = H
  have hp1 := cur_set2 hp H
  have hg1 := cur_grown2 w p (.int .i64 H) 2
  have e0 := World.cell?_setCell_other w ⟨p, 2, none⟩ ⟨p, 0, none⟩ (.int .i64 H) (by simp)
  generalize w.setCell ⟨p, 2, none⟩ (.int .i64 H) = w1 at hp1 hg1 e0 ⊢
  clear c0 c1 f1 f2 hp e0
  have c0 : w1.cell? ⟨p, 0, none⟩ = some (.slice a n c) := by simp [World.cell?, hp1]
  have c1 : w1.cell? ⟨p, 1, none⟩ = some (.int .i64 i) := by simp [World.cell?, hp1]
  have c2 : w1.cell? ⟨p, 2, none⟩ = some (.int .i64 H) := by simp [World.cell?, hp1]
  have f1 : w1.frozen? ⟨p, 1, none⟩ = false := by simp [World.frozen?, hp1]
  go_quiet (fail)
  go_wp2
  have hX := and255 (bits BinOp.xor IntKind.i64 (H / 8589934592) (H / 35184372088832))
  generalize bits BinOp.and IntKind.i64 (bits BinOp.xor IntKind.i64 (H / 8589934592) (H / 35184372088832)) 255 = X at hX ⊢
  obtain ⟨hX0, hX1⟩ := hX
  by_cases hin2 : (i : Int) < (n : Int)
  · rcases hb with hb | ⟨b, o, rfl, hbs, hcell⟩
    · omega
    have hbp : b ≠ p := hne b o none rfl (by omega)
    obtain ⟨y, hy⟩ : ∃ y, y = xs.getD i 0 := ⟨_, rfl⟩
    have hck : w1.cell? ⟨b, o + i, none⟩ = some (.int .u8 y) := by rw [hy]; exact hg1.cell (hcell i (by omega)) (by simpa using hbp)
    have hyb : 0 ≤ y ∧ y < 256 := by rw [hy]; exact get_byte hby (by omega)
    obtain ⟨hy0, hy1⟩ := hyb
    have hi0 : (0 : Int) ≤ (i : Int) := by omega
    clear hcell hy hby
    go_quiet (fail)
    go_wp2
    go_quiet (fail)
    go_wp2
    have hZ := and255 (X + y)
    generalize bits BinOp.and IntKind.i64 (X + y) 255 = Z at hZ ⊢
    go_ret
    refine ⟨Z, rfl, hZ.1, hZ.2, ⟨i + 1, H, by omega, ?_⟩, ?_⟩
    · rw [show (((i + 1 : Nat) : Int)) = (i : Int) + 1 by omega]
      exact cur_set1 (w := w1.drewN _) hp1 ((i : Int) + 1)
    · exact grown_trans (grown_drewN hg1 _) (cur_grown2 _ _ _ _)
  · have hd : decide (i < n) = false := by simp; omega
    go_quiet (fail)
    go_wp2
    go_ret
    exact ⟨X, rfl, hX0, hX1, ⟨i, H, hin, hp1⟩, grown_drewN hg1 _⟩

set_option maxHeartbeats 1000000 in
theorem curBelow (p : Nat) (a : Option Addr) (n c : Nat) (xs : List Int) (N : Int) (w : World) (hcur : Cur w p a n c) (hcode : Coded w p a n c xs) (hN : N ≤ 9223372036854775807) :
    Calls Tryd.prog 82 #[.pointer (some ⟨p, 0, none⟩), .int .i64 N] w fun e w' => ∃ x : Int, e = .returned (.int .i64 x) ∧ 0 ≤ x ∧ (0 < N → x < N) ∧ (N ≤ 0 → x = 0) ∧ Cur w' p a n c ∧ w.grownBy w' (some p) := by
  by_cases h0 : N ≤ 0
  · go_enter Tryd.func82, Tryd.ntmps82
    go_wp2
    go_ret
    exact ⟨0, rfl, by omega, by omega, fun _ => rfl, hcur, World.grownBy.refl _ _⟩
  by_cases h1 : N ≤ 256
  · go_enter Tryd.func82, Tryd.ntmps82
    go_wp2_with fail
    refine (curByte p a n c xs _ hcur hcode).mono ?_
    rintro e w1 ⟨x, rfl, hx0, hx1, hc1, hg1⟩
    have hz : (N == 0) = false := by simp; omega
    go_wp2
    go_ret
    exact ⟨x % N, rfl, Int.emod_nonneg _ (by omega), fun h => Int.emod_lt_of_pos _ h, by omega, hc1, hg1⟩
  · go_enter Tryd.func82, Tryd.ntmps82
    go_wp2_with fail
    refine (curByte p a n c xs _ hcur hcode).mono ?_
    rintro e w1 ⟨x, rfl, hx0, hx1, hc1, hg1⟩
    have hd1 := hcode.grown hg1
    clear hcur hcode
    go_wp2_with fail
    refine (curByte p a n c xs _ hc1 hd1).mono ?_
    rintro e w2 ⟨y, rfl, hy0, hy1, hc2, hg2⟩
    have hd2 := hd1.grown hg2
    have k2 := grown_trans hg1 hg2
    clear hc1 hd1 hg1 hg2
    go_wp2_with fail
    refine (curByte p a n c xs _ hc2 hd2).mono ?_
    rintro e w3 ⟨z, rfl, hz0, hz1, hc3, hg3⟩
    have hd3 := hd2.grown hg3
    have k3 := grown_trans k2 hg3
    clear hc2 hd2 k2 hg3
    go_wp2_with fail
    refine (curByte p a n c xs _ hc3 hd3).mono ?_
    rintro e w4 ⟨u, rfl, hu0, hu1, hc4, hg4⟩
    have k4 := grown_trans k3 hg4
    clear hc3 hd3 k3 hg4
    have hz : (N == 0) = false := by simp; omega
    go_wp2
    go_ret
    exact ⟨_, rfl, Int.emod_nonneg _ (by omega), fun h => Int.emod_lt_of_pos _ h, by omega, hc4, k4⟩

set_option maxHeartbeats 1000000 in
theorem curOnce (p : Nat) (a : Option Addr) (n c : Nat) (xs : List Int) (N : Int) (w : World) (hcur : Cur w p a n c) (hcode : Coded w p a n c xs) (hN : N ≤ 9223372036854775807) :
    Calls Tryd.prog 80 #[.pointer (some ⟨p, 0, none⟩), .int .i64 N] w fun e w' => ∃ x : Bool, e = .returned (.bool x) ∧ Cur w' p a n c ∧ w.grownBy w' (some p) := by
  go_enter Tryd.func80, Tryd.ntmps80
  go_wp2_with fail
  refine (curBelow p a n c xs N _ hcur hcode hN).mono ?_
  rintro e w1 ⟨x, rfl, _, _, _, hc1, hg1⟩
  go_wp2
  go_ret
  exact ⟨_, rfl, hc1, hg1⟩
end Go.Proofs.YtoblilngppjmhaaDoor

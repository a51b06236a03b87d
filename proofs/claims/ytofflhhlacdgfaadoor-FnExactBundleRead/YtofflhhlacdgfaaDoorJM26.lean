/-
  What is proved here: what a row's list of laid variables gives the walks (the program's tables hold what its text lays into them), and that the named variables read again as they did where nothing old has turned; no condition; a slice of bytes that is handed over holds at most as many bytes as memory bears; bytes as a string, and the contract of the library's bytes.Equal at slices that are not nil; the contract of the library's bytes.Equal where the first slice may be nil; what Fits of both sides answers; what the program's Fits answers.
-/
import Derived.Test.YtofflhhlacdgfaaDoorRows
import Derived.Test.YtofflhhlacdgfaaDoorJM9
import Derived.Test.YtofflhhlacdgfaaDoorJM11
import Derived.ProofKit
import Derived.LaidMore
import Derived.OpenShut
import Derived.Stop.Joined
import Derived.Lib.LaidTab
import Derived.ChangeOld
import Derived.Below
import Derived.Test.YtofflhhlacdgfaaDoorProg
import Derived.SizedLaws
import Derived.Lib.SmallJoins
import Derived.Test.YtofflhhlacdgfaaDoorJM1
import Derived.Laws.BytesArg
import Derived.Laws.Strings
import Derived.Test.YtofflhhlacdgfaaDoorJM17
import Derived.Test.YtofflhhlacdgfaaDoorJM21
namespace Go.Proofs.YtofflhhlacdgfaaDoor
open Go.ChangeShapes Go.WideShapes Go.ChangeAt Go.RowKit
set_option maxRecDepth 100000

theorem own : ownKnob Tryd.prog.godebug = none := by kernel_rfl
theorem laidOut : laidOutB Tryd.prog = true := by kernel_rfl
theorem gFirst : Tryd.prog.globalNamed "loop.example/g00412/impl.shaFirst" = some 1 := by kernel_rfl
theorem tFirst : (Tryd.prog.globals[1]?).map (·.type) = some 133 := by kernel_rfl
theorem gRounds : Tryd.prog.globalNamed "loop.example/g00412/impl.shaRoundWords" = some 2 := by kernel_rfl
theorem tRounds : (Tryd.prog.globals[2]?).map (·.type) = some 158 := by kernel_rfl
theorem gTurns : Tryd.prog.globalNamed "loop.example/g00412/impl.shaTurns" = some 3 := by kernel_rfl
theorem tTurns : (Tryd.prog.globals[3]?).map (·.type) = some 139 := by kernel_rfl

theorem vr_of {W : World} {n : String} {g : Nat} {cs : Array Value} {l : List Value} (hg : Tryd.prog.globalNamed n = some g) (hv : W.var? Tryd.prog n = some cs) (hl : cs.toList = l) : Vr W g l := by
  unfold World.var? at hv
  rw [hg] at hv
  simp only [Option.bind_some] at hv
  split at hv
  · rename_i cs' t z he
    cases hv
    exact ⟨t, z, by rw [he, ← hl]⟩
  · cases hv

theorem turns_of {H : Type} {enc : TypeId × Value → H} {W : World} {sp : Nat → Bool} {held : Bool} {f : Nat} {cs : List Value} {p : List MemPlace}
    (h : DataW.trod enc Tryd.prog W 0 sp held f 139 cs = some (Rows.laid_loop_example_g00412_impl_shaTurns, p)) : cs = [2, 13, 22, 6, 11, 25, 7, 18, 3, 17, 19, 10].map (Value.int .i64) := by
  obtain ⟨xs, m, _, hx, hlen, hn, hel⟩ := DataW.trod_array Tryd.underlying139 h
  have c88 : Tryd.prog.cellsOf 138 = 3 := by kernel_rfl
  have c89 : Tryd.prog.cellsOf 139 = 12 := by kernel_rfl
  have c3 : Tryd.prog.cellsOf 3 = 1 := by kernel_rfl
  rw [c89] at hlen
  match xs, hn with
  | [x0, x1, x2, x3], _ =>
    have h0 := hel 0 (by decide)
    have h1 := hel 1 (by decide)
    have h2 := hel 2 (by decide)
    have h3 := hel 3 (by decide)
    simp only [c88] at h0 h1 h2 h3
    have hx' := congrArg Prod.fst hx
    simp only [Rows.laid_loop_example_g00412_impl_shaTurns, List.map_cons, List.map_nil, DataW.agg.injEq, List.cons.injEq, and_true] at hx'
    obtain ⟨e0, e1, e2, e3⟩ := hx'
    have row : ∀ (x : DataW H × List MemPlace) (l : List Value) (zs : List Int), DataW.trod enc Tryd.prog W 0 sp held m 138 l = some x → Lib.tabData .i64 zs = x.1 → l = zs.map (Value.int .i64) := by
      intro x l zs hh he
      have : x = (Lib.tabData .i64 zs, x.2) := by rw [he]
      rw [this] at hh
      exact Lib.cells_of_tab Tryd.underlying138 Tryd.underlying3 c3 c88 hh
    have r0 := row x0 _ [2, 13, 22] h0 e0
    have r1 := row x1 _ [6, 11, 25] h1 e1
    have r2 := row x2 _ [7, 18, 3] h2 e2
    have r3 := row x3 _ [17, 19, 10] h3 e3
    have hcs : cs = (cs.drop (0 * 3)).take 3 ++ ((cs.drop (1 * 3)).take 3 ++ ((cs.drop (2 * 3)).take 3 ++ (cs.drop (3 * 3)).take 3)) := by
      match cs, hlen with
      | [a0, a1, a2, a3, a4, a5, a6, a7, a8, a9, a10, a11], _ => rfl
    rw [hcs, r0, r1, r2, r3]
    rfl

theorem vFirst {H : Type} {enc : TypeId × Value → H} {W : World} {sp : Nat → Bool} {held : Bool} {f : Nat} {cs : Array Value} {p : List MemPlace} (hv : W.var? Tryd.prog "loop.example/g00412/impl.shaFirst" = some cs) (h : DataW.trod enc Tryd.prog W 0 sp held f 133 cs.toList = some (Rows.laid_loop_example_g00412_impl_shaFirst, p)) : Vr W 1 (H0.map (Value.int .u32)) :=
  vr_of gFirst hv (Lib.cells_of_tab (zs := H0) Tryd.underlying133 Tryd.underlying132 (by kernel_rfl) (by kernel_rfl) h)
theorem vRounds {H : Type} {enc : TypeId × Value → H} {W : World} {sp : Nat → Bool} {held : Bool} {f : Nat} {cs : Array Value} {p : List MemPlace} (hv : W.var? Tryd.prog "loop.example/g00412/impl.shaRoundWords" = some cs) (h : DataW.trod enc Tryd.prog W 0 sp held f 158 cs.toList = some (Rows.laid_loop_example_g00412_impl_shaRoundWords, p)) : Vr W 2 (KS.map (Value.int .u32)) :=
  vr_of gRounds hv (Lib.cells_of_tab (zs := KS) Tryd.underlying158 Tryd.underlying132 (by kernel_rfl) (by kernel_rfl) h)
theorem vTurns {H : Type} {enc : TypeId × Value → H} {W : World} {sp : Nat → Bool} {held : Bool} {f : Nat} {cs : Array Value} {p : List MemPlace} (hv : W.var? Tryd.prog "loop.example/g00412/impl.shaTurns" = some cs) (h : DataW.trod enc Tryd.prog W 0 sp held f 139 cs.toList = some (Rows.laid_loop_example_g00412_impl_shaTurns, p)) : Vr W 3 ([2, 13, 22, 6, 11, 25, 7, 18, 3, 17, 19, 10].map (Value.int .i64)) :=
  vr_of gTurns hv (turns_of h)
theorem tabs_PartOf {W : World} (h : laidMetH Tryd.prog Rows.fnExactPartOfRow.laid W) : Tabs W ∧ TabF W := by
  rw [MakeChecks.laidMetH_plain _ _ _ (by kernel_rfl)] at h
  obtain ⟨ps, ⟨g0, t0, cs0, f0, p0, q0, hg0, ht0, hv0, hd0, ⟨g1, t1, cs1, f1, p1, q1, hg1, ht1, hv1, hd1, ⟨g2, t2, cs2, f2, p2, q2, hg2, ht2, hv2, hd2, _, _⟩, _⟩, _⟩, _, _⟩ := h
  obtain rfl := Option.some.inj (gTurns.symm.trans hg0)
  obtain rfl := Option.some.inj (tTurns.symm.trans ht0)
  obtain rfl := Option.some.inj (gFirst.symm.trans hg1)
  obtain rfl := Option.some.inj (tFirst.symm.trans ht1)
  obtain rfl := Option.some.inj (gRounds.symm.trans hg2)
  obtain rfl := Option.some.inj (tRounds.symm.trans ht2)
  exact ⟨⟨vTurns hv0 hd0, vRounds hv2 hd2⟩, vFirst hv1 hd1⟩
theorem tabs_Fits {W : World} (h : laidMetH Tryd.prog Rows.fnExactFitsRow.laid W) : Tabs W ∧ TabF W := by
  rw [MakeChecks.laidMetH_plain _ _ _ (by kernel_rfl)] at h
  obtain ⟨ps, ⟨g0, t0, cs0, f0, p0, q0, hg0, ht0, hv0, hd0, ⟨g1, t1, cs1, f1, p1, q1, hg1, ht1, hv1, hd1, ⟨g2, t2, cs2, f2, p2, q2, hg2, ht2, hv2, hd2, _, _⟩, _⟩, _⟩, _, _⟩ := h
  obtain rfl := Option.some.inj (gTurns.symm.trans hg0)
  obtain rfl := Option.some.inj (tTurns.symm.trans ht0)
  obtain rfl := Option.some.inj (gFirst.symm.trans hg1)
  obtain rfl := Option.some.inj (tFirst.symm.trans ht1)
  obtain rfl := Option.some.inj (gRounds.symm.trans hg2)
  obtain rfl := Option.some.inj (tRounds.symm.trans ht2)
  exact ⟨⟨vTurns hv0 hd0, vRounds hv2 hd2⟩, vFirst hv1 hd1⟩
theorem tabs_FnFits {W : World} (h : laidMetH Tryd.prog Rows.fnFitsRow.laid W) : Tabs W ∧ TabF W := by
  rw [MakeChecks.laidMetH_plain _ _ _ (by kernel_rfl)] at h
  obtain ⟨ps, ⟨g0, t0, cs0, f0, p0, q0, hg0, ht0, hv0, hd0, ⟨g1, t1, cs1, f1, p1, q1, hg1, ht1, hv1, hd1, ⟨g2, t2, cs2, f2, p2, q2, hg2, ht2, hv2, hd2, _, _⟩, _⟩, _⟩, _, _⟩ := h
  obtain rfl := Option.some.inj (gTurns.symm.trans hg0)
  obtain rfl := Option.some.inj (tTurns.symm.trans ht0)
  obtain rfl := Option.some.inj (gFirst.symm.trans hg1)
  obtain rfl := Option.some.inj (tFirst.symm.trans ht1)
  obtain rfl := Option.some.inj (gRounds.symm.trans hg2)
  obtain rfl := Option.some.inj (tRounds.symm.trans ht2)
  exact ⟨⟨vTurns hv0 hd0, vRounds hv2 hd2⟩, vFirst hv1 hd1⟩
theorem tabs_FnKeys {W : World} (h : laidMetH Tryd.prog Rows.fnKeysRow.laid W) : Tabs W ∧ TabF W := by
  rw [MakeChecks.laidMetH_plain _ _ _ (by kernel_rfl)] at h
  obtain ⟨ps, ⟨g0, t0, cs0, f0, p0, q0, hg0, ht0, hv0, hd0, ⟨g1, t1, cs1, f1, p1, q1, hg1, ht1, hv1, hd1, ⟨g2, t2, cs2, f2, p2, q2, hg2, ht2, hv2, hd2, _, _⟩, _⟩, _⟩, _, _⟩ := h
  obtain rfl := Option.some.inj (gTurns.symm.trans hg0)
  obtain rfl := Option.some.inj (tTurns.symm.trans ht0)
  obtain rfl := Option.some.inj (gFirst.symm.trans hg1)
  obtain rfl := Option.some.inj (tFirst.symm.trans ht1)
  obtain rfl := Option.some.inj (gRounds.symm.trans hg2)
  obtain rfl := Option.some.inj (tRounds.symm.trans ht2)
  exact ⟨⟨vTurns hv0 hd0, vRounds hv2 hd2⟩, vFirst hv1 hd1⟩
theorem tabs_FnMeets {W : World} (h : laidMetH Tryd.prog Rows.fnMeetsRow.laid W) : Tabs W ∧ TabF W := by
  rw [MakeChecks.laidMetH_plain _ _ _ (by kernel_rfl)] at h
  obtain ⟨ps, ⟨g0, t0, cs0, f0, p0, q0, hg0, ht0, hv0, hd0, ⟨g1, t1, cs1, f1, p1, q1, hg1, ht1, hv1, hd1, ⟨g2, t2, cs2, f2, p2, q2, hg2, ht2, hv2, hd2, _, _⟩, _⟩, _⟩, _, _⟩ := h
  obtain rfl := Option.some.inj (gTurns.symm.trans hg0)
  obtain rfl := Option.some.inj (tTurns.symm.trans ht0)
  obtain rfl := Option.some.inj (gFirst.symm.trans hg1)
  obtain rfl := Option.some.inj (tFirst.symm.trans ht1)
  obtain rfl := Option.some.inj (gRounds.symm.trans hg2)
  obtain rfl := Option.some.inj (tRounds.symm.trans ht2)
  exact ⟨⟨vTurns hv0 hd0, vRounds hv2 hd2⟩, vFirst hv1 hd1⟩
theorem var_below {W W' : World} {n : String} {cs : Array Value} (hb : Below W.heap.size W W') (h : W.var? Tryd.prog n = some cs) : W'.var? Tryd.prog n = some cs := by
  unfold World.var? at h ⊢
  cases hg : Tryd.prog.globalNamed n with
  | none => rw [hg] at h; cases h
  | some g =>
    rw [hg] at h
    simp only [Option.bind_some] at h ⊢
    by_cases hlt : g < W.heap.size
    · rw [hb.block g hlt]; exact h
    · rw [Array.getElem?_eq_none (by omega)] at h
      cases h

theorem vars_carry {H : Type} {enc : TypeId × Value → H} {W W' : World} (hb : Below W.heap.size W W') : ∀ {ns : List String} {gs : List (DataW H)} {ps : List MemPlace},
    (∀ n ∈ ns, ∀ g t, Tryd.prog.globalNamed n = some g → (Tryd.prog.globals[g]?).map (·.type) = some t → Tryd.prog.readableRec t = true ∧ t < Tryd.prog.types.size) →
    DataW.TrodVars enc Tryd.prog W (fun _ => true) ns gs ps → DataW.TrodVars enc Tryd.prog W' (fun b => decide (b < W.heap.size)) ns gs ps
  | [], [], _, _, h => h
  | n :: ns, d :: ds, ps, hr, h => by
    obtain ⟨g, t, cs, fuel, p, q, h1, h2, h3, h4, hs, e⟩ := h
    obtain ⟨r1, r2⟩ := hr n (by simp) g t h1 h2
    have hT : DataW.Trod enc Tryd.prog W 0 (fun _ => true) true t (.agg cs) d p := ⟨fuel, h4⟩
    obtain ⟨fuel', h4'⟩ := Below.trod laidOut r1 r2 hT hb (DataW.trod_lt _ _ _ _ h4)
    exact ⟨g, t, cs, fuel', p, q, h1, h2, var_below hb h3, h4', vars_carry hb (fun n hn => hr n (by simp [hn])) hs, e⟩
  | [], _ :: _, _, _, h => by cases h
  | _ :: _, [], _, _, h => by cases h
end Go.Proofs.YtofflhhlacdgfaaDoor
namespace Go.Proofs.YtofflhhlacdgfaaDoor

theorem reach_of {H : Type} {d : DataW H} {ts : List TypeId} {ds : List (DataW H)} (h : (DataW.weightsEach Tryd.prog (22 :: ts) (d :: ds)).all (· ≤ reachBytes) = true) : Joins.sliceLen d ≤ 140737488351232 := by
  cases d with
  | slice el sp =>
    have h1 := sized_slice h (j := 0) (t := 22) (e := 5) rfl rfl Tryd.underlying22
    rw [show Tryd.prog.bytesOf 5 = 1 by kernel_rfl] at h1
    simp only [Joins.sliceLen, reachBytes] at h1 ⊢
    omega
  | _ => simp [Joins.sliceLen]
end Go.Proofs.YtofflhhlacdgfaaDoor
namespace Go.Proofs.YtofflhhlacdgfaaDoor
open Go.RowKit
set_option maxRecDepth 100000

theorem str_eq {xs ys : List Int} (hx : ∀ x ∈ xs, 0 ≤ x ∧ x < 256) (hy : ∀ x ∈ ys, 0 ≤ x ∧ x < 256) : ((strOfNums xs).toList == (strOfNums ys).toList) = decide (xs = ys) := by
  have e : ∀ l : List Int, (strOfNums l).toList = l.map (fun n => UInt8.ofNat n.toNat) := fun l => by
    unfold strOfNums
    exact ByteArray.toList_mk _
  have back : ∀ l : List Int, (∀ x ∈ l, 0 ≤ x ∧ x < 256) → (l.map (fun n => UInt8.ofNat n.toNat)).map (fun u => (u.toNat : Int)) = l := by
    intro l hl
    rw [List.map_map]
    have : l.map ((fun u : UInt8 => (u.toNat : Int)) ∘ fun n : Int => UInt8.ofNat n.toNat) = l.map id := List.map_congr_left fun n hn => by
      have := hl n hn
      simp only [Function.comp, id]
      rw [UInt8.toNat_ofNat']
      omega
    rw [this, List.map_id]
  rw [e, e]
  by_cases h : xs = ys
  · subst h; simp
  · have h9 : xs.map (fun n => UInt8.ofNat n.toNat) ≠ ys.map (fun n => UInt8.ofNat n.toNat) := fun q => h (by rw [← back xs hx, ← back ys hy, q])
    rw [decide_eq_false h]
    exact beq_eq_false_iff_ne.2 h9
theorem bs_conv {w : World} {b o n c : Nat} {xs : List Int} (h : Bs w (some ⟨b, o, none⟩) n c xs) : (convert 22 9 (.slice (some ⟨b, o, none⟩) n c)).run Tryd.prog w = .ok (.string (strOfNums xs)) w := by
  obtain ⟨_, hl, _, _, hx⟩ := h
  refine run_convert_bytes_arg w 22 5 Tryd.underlying22 Tryd.underlying5 b o n c xs hl (fun i hi => ?_) 9 Tryd.underlying9
  rcases hx with hx | ⟨b', o', he, _, hcell⟩
  · omega
  · cases he
    exact hcell i hi

set_option maxHeartbeats 1000000 in
theorem equalB (b o n c b' o' m d : Nat) (xs ys : List Int) (w : World) (h : Bs w (some ⟨b, o, none⟩) n c xs) (k : Bs w (some ⟨b', o', none⟩) m d ys) :
    Calls Tryd.prog 79 #[.slice (some ⟨b, o, none⟩) n c, .slice (some ⟨b', o', none⟩) m d] w fun e w' => e = .returned (.bool (decide (xs = ys))) ∧ w' = w := by
  have h1 := bs_conv h
  have h2 := bs_conv k
  have e1 := str_eq h.2.2.2.1 k.2.2.2.1
  obtain ⟨s, hs⟩ : ∃ s, s = strOfNums xs := ⟨_, rfl⟩
  obtain ⟨t, ht⟩ : ∃ t, t = strOfNums ys := ⟨_, rfl⟩
  rw [← hs] at h1 e1
  rw [← ht] at h2 e1
  rw [← e1]
  clear e1 hs ht h k
  go_enter Tryd.func79, Tryd.ntmps79
  go_wp2
  go_ret
  exact ⟨rfl, rfl⟩
end Go.Proofs.YtofflhhlacdgfaaDoor
namespace Go.Proofs.YtofflhhlacdgfaaDoor
open Go.RowKit
set_option maxRecDepth 100000

theorem nil_conv (w : World) : (convert 22 9 (.slice none 0 0)).run Tryd.prog w = .ok (.string (strOfNums [])) w := by
  rfl
set_option maxHeartbeats 1000000 in
theorem equalB' (a : Option Addr) (n c b' o' m d : Nat) (xs ys : List Int) (w : World) (h : Bs w a n c xs) (ha : a = none ∨ ∃ b o, a = some ⟨b, o, none⟩) (k : Bs w (some ⟨b', o', none⟩) m d ys) :
    Calls Tryd.prog 79 #[.slice a n c, .slice (some ⟨b', o', none⟩) m d] w fun e w' => e = .returned (.bool (decide (xs = ys))) ∧ w' = w := by
  rcases ha with rfl | ⟨b, o, rfl⟩
  case inr => exact equalB b o n c b' o' m d xs ys w h k
  case inl =>
    have hc := h.1 rfl
    have hn : n = 0 := by have := h.2.2.1; omega
    subst hc hn
    have hx : xs = [] := List.eq_nil_of_length_eq_zero h.2.1
    subst hx
    have h1 := nil_conv w
    have h2 := bs_conv k
    have e1 := str_eq (xs := []) (by simp) k.2.2.2.1
    obtain ⟨s, hs⟩ : ∃ s, s = strOfNums [] := ⟨_, rfl⟩
    obtain ⟨t, ht⟩ : ∃ t, t = strOfNums ys := ⟨_, rfl⟩
    rw [← hs] at h1 e1
    rw [← ht] at h2 e1
    rw [← e1]
    clear e1 hs ht h k
    go_enter Tryd.func79, Tryd.ntmps79
    go_wp2
    go_ret
    exact ⟨rfl, rfl⟩
theorem own_addr {W : World} {B n e s : Nat} {a : Option Addr} {c m : Nat} {l : List Value} (h : W.ownsRow B e s (.slice a n c) m l) : a = none ∨ ∃ b o, a = some ⟨b, o, none⟩ := by
  rcases h.2 with ⟨h, _⟩ | ⟨g, cap, cur, h, _⟩
  · simp only [Value.slice.injEq] at h
    exact .inl h.1
  · simp only [Value.slice.injEq] at h
    exact .inr ⟨g, 0, h.1⟩
end Go.Proofs.YtofflhhlacdgfaaDoor
namespace Go.Proofs.YtofflhhlacdgfaaDoor
open Go.RowKit
set_option maxRecDepth 100000
set_option maxHeartbeats 4000000
set_option linter.unusedVariables false

/-- Whether data fit a part. -/
def fT (k v s : Int) (hs bs : List Int) : Bool := decide (partOk k v s hs.length) && (decide ((bs.length : Int) = s) && decide (sumOf bs = hs))
def DSum (lo : Nat) (bs : List Int) (_ _ : Nat) (w : World) (u : Value) : Prop := ∃ g c, u = .slice (some ⟨g, 0, none⟩) 32 c ∧ w.ownsRow lo 5 1 u 32 (U8 (sumOf bs))
theorem dSum_keeps (q lo : Nat) (bs : List Int) : Kd.keeps (kv q (DSum lo bs)) := fun _ _ _ _ _ h _ b => by
  obtain ⟨g, c, e, o⟩ := h
  exact ⟨g, c, e, own_below o b⟩
theorem dSum_of {lo n : Nat} {W : World} {u : Value} {bs : List Int} (hn : n = 32) (h : W.ownsRow lo 5 1 u n (U8 (sumOf bs))) : DSum lo bs 0 0 W u := by
  subst hn
  obtain ⟨_, hs⟩ := own_shape h
  rcases hs with ⟨_, h0⟩ | ⟨g, c, rfl, _⟩
  · omega
  · exact ⟨g, c, rfl, h⟩
theorem tfSum {P : Program} {ev : Operand → Value} {o : Oper} {q lo : Nat} {w : World} {X : Prop} {bs : List Int} {g : FuncId} {args : Array Value} {m : Nat} (hlo : lo ≤ w.heap.size) (hm : m = 32)
    (hc : Calls P g args w fun e w' => ∃ u, e = .returned u ∧ w'.ownsRow w.heap.size 5 1 u m (U8 (sumOf bs)) ∧ Below w.heap.size w w') (h : (execOp ev o).run P w = .ok (.enter g args) w) : Dty X (TOb P ev o (kv q (DSum lo bs)) w) :=
  tr (fun _ => hc.mono (by rintro e' w' ⟨u, rfl, o, hb⟩; exact ⟨_, rfl, _, rfl, hb, dSum_of hm (own_lower o hlo)⟩)) h
/-- A value that hangs on an operation ahead of it. -/
theorem tpx {P : Program} {ev : Operand → Value} {o : Oper} {d : Nat} {c : Value} {w : World} {X : Prop} (h : X → (execOp ev o).run P w = .ok (.value c) w) : Dty X (TOb P ev o (kc d c) w) := ⟨fun x => by
  refine ⟨?_⟩
  unfold TObR
  rw [h x]
  exact ⟨undef, rfl, Below.refl _ _, trivial⟩⟩
theorem ogx {P : Program} {ops : Array Oper} {T : Array Value} {o : Oper} {k : Kd} {w : World} {X : Prop} (h : Dty X (TOb P (Act.eval ⟨T, []⟩) o k w)) (hw : Region.wanted o (yielded ops T) = true) : Dty X (Ob P ops T o k w) := og h hw
theorem specFits (k v s : Int) (ha : Option Addr) (hn hc : Nat) (hs : List Int) (a : Option Addr) (n c : Nat) (bs : List Int) (w : World) (hH : Bs w ha hn hc hs) (hB : Bs w a n c bs) :
    Calls Tryd.prog 44 #[partV k v s ha hn hc, .slice a n c] w fun e w' => e = .returned (.bool (fT k v s hs bs)) ∧ Below w.heap.size w w' := by
  obtain ⟨V, hV⟩ : ∃ V, V = w.alloc (.cells #[.int .i64 k, .int .i64 v, .int .i64 s, .slice ha hn hc] 45) := ⟨_, rfl⟩
  have B : Below w.heap.size w V := by rw [hV]; exact (Below.refl _ _).alloc (Nat.le_refl _) _
  have A : Arr V w.heap.size 45 [.int .i64 k, .int .i64 v, .int .i64 s, .slice ha hn hc] := by rw [hV]; exact Arr.new _ _ _
  have lA := A.lt
  have c0 := A.cell 0
  have c1 := A.cell 1
  have c2 := A.cell 2
  have c3 := A.cell 3
  simp at c0 c1 c2 c3
  obtain ⟨R, hR⟩ : ∃ R, R = fT k v s hs bs := ⟨_, rfl⟩
  rw [← hR]
  unfold fT at hR
  rw [hH.2.1, hB.2.1] at hR
  have HR : Hid (R = (decide (partOk k v s hn) && (decide ((n : Int) = s) && decide (sumOf bs = hs)))) := hR
  have HH : Hid (∀ Z, Below w.heap.size w Z → Bs Z ha hn hc hs) := fun Z hZ => hH.below hZ
  have HB : Hid (∀ Z, Below w.heap.size w Z → Bs Z a n c bs) := fun Z hZ => hB.below hZ
  have HS : Hid (n ≤ 192 → ∀ Z, Below w.heap.size w Z → Calls Tryd.prog 96 #[.slice a n c] Z fun e w' => ∃ u, e = .returned u ∧ w'.ownsRow Z.heap.size 5 1 u 32 (U8 (sumOf bs)) ∧ Below Z.heap.size Z w') := fun h Z hZ => specL2sum a n c bs Z (hB.below hZ) (by omega)
  obtain ⟨F, hF⟩ : ∃ F, F = w.heap.size := ⟨_, rfl⟩
  have HL : Hid (Below w.heap.size w V) := B
  have HFs : Hid (F = w.heap.size) := hF
  rw [← hF] at lA c0 c1 c2 c3
  clear hR hH hB A B
  go_enter Tryd.func44, Tryd.ntmps44
  go_upto_region 1 with fail
  rw [← hV]
  rw [← hF]
  clear hV hF
  by_cases h1 : partOk k v s hn
  case neg =>
    have HD : Hid (decide (partOk k v s hn) = false) := decide_eq_false h1
    have HE : Hid (R = false) := by unfold Hid; rw [HR.out, HD.out]; rfl
    clear HR HS h1
    try simp only [Act.put]
    refine tameG [kc 5 (.agg #[.int .i64 k, .int .i64 v, .int .i64 s, .slice ha hn hc]), kc 6 (.bool false), kc 7 (.bool false), kc 8 (undef), kc 9 (undef), kc 10 (undef), kc 11 (undef), kc 12 (undef), kc 13 (.bool false), kc 14 (.bool false), kc 15 (undef), kc 16 (undef), kc 17 (undef), kc 18 (undef), kc 19 (undef), kc 20 (undef), kc 21 (undef), kc 22 (.bool false), kc 4 (.bool false)] 19 (by kernel_rfl) (by kernel_rfl) (by kernel_rfl) (by repeat' first | exact trivial | apply kc_keeps | apply dSum_keeps | constructor) 0 (by kernel_rfl) (fun vv ll hh yW bW => ?_) (fun vv ll hh yW bW F0 ivh aph => ?_)
    · have x0 := (bW.cell (p := ⟨F, 0, none⟩) lA).trans c0
      have x1 := (bW.cell (p := ⟨F, 1, none⟩) lA).trans c1
      have x2 := (bW.cell (p := ⟨F, 2, none⟩) lA).trans c2
      have x3 := (bW.cell (p := ⟨F, 3, none⟩) lA).trans c3
      refine ⟨og (tp ?_) (by kernel_rfl), og (tc ((spec8part k v s ha hn hc _).mono (by rintro e w1 ⟨rfl, hb⟩; rw [HD.out]; exact ⟨rfl, hb⟩)) (by kernel_rfl)) (by kernel_rfl), og (tp (by kernel_rfl)) (by kernel_rfl), ou (by kernel_rfl), ou (by kernel_rfl), ou (by kernel_rfl), ou (by kernel_rfl), ou (by kernel_rfl), og (tp (by kernel_rfl)) (by kernel_rfl), og (tp (by kernel_rfl)) (by kernel_rfl), ou (by kernel_rfl), ou (by kernel_rfl), ou (by kernel_rfl), ou (by kernel_rfl), ou (by kernel_rfl), ou (by kernel_rfl), ou (by kernel_rfl), og (tp (by kernel_rfl)) (by kernel_rfl), og (tp (by kernel_rfl)) (by kernel_rfl), trivial⟩
      all_goals
        try simp only [fillK, putT, List.setIfInBounds_toArray, List.set_cons_zero, List.set_cons_succ]
        try unfold execOp
        try go_simp
        try rfl
    clear F0 ivh aph
    obtain ⟨y, hy⟩ : ∃ z, z = yW := ⟨_, rfl⟩
    rw [← hy] at bW ⊢
    clear hy
    have HB2 : Hid (Below w.heap.size w y) := HL.out.trans (bW.mono HL.out.size)
    clear c0 c1 c2 c3 lA bW
    refine wpAny_done (by kernel_rfl) ?_ _
    simp only [fillK, putT, List.setIfInBounds_toArray, List.set_cons_zero, List.set_cons_succ]
    go_wp2
    go_ret
    exact ⟨by rw [HE.out]; rfl, HB2.out⟩
  have HD : Hid (decide (partOk k v s hn) = true) := decide_eq_true h1
  have hs192 : s ≤ 192 := h1.2.2.1.2
  have h32 : hn = 32 := h1.2.2.2
  have HN : Hid (hn = 32) := h32
  clear h1 h32
  by_cases h2 : (n : Int) = s
  case neg =>
    have HE : Hid (R = false) := by unfold Hid; rw [HR.out, HD.out, decide_eq_false h2]; rfl
    have h2' : ((n : Int) == s) = false := by simpa using h2
    clear HR HS h2 hs192
    try simp only [Act.put]
    refine tameG [kc 5 (.agg #[.int .i64 k, .int .i64 v, .int .i64 s, .slice ha hn hc]), kc 6 (.bool true), kc 7 (.bool true), kc 8 (.slice a n c), kc 9 (.int .i64 (n : Int)), kc 10 (.pointer (some ⟨F, 2, none⟩)), kc 11 (.int .i64 s), kc 12 (.bool false), kc 13 (.bool false), kc 14 (.bool false), kc 15 (undef), kc 16 (undef), kc 17 (undef), kc 18 (undef), kc 19 (undef), kc 20 (undef), kc 21 (undef), kc 22 (.bool false), kc 4 (.bool false)] 19 (by kernel_rfl) (by kernel_rfl) (by kernel_rfl) (by repeat' first | exact trivial | apply kc_keeps | apply dSum_keeps | constructor) 0 (by kernel_rfl) (fun vv ll hh yW bW => ?_) (fun vv ll hh yW bW F0 ivh aph => ?_)
    · have x0 := (bW.cell (p := ⟨F, 0, none⟩) lA).trans c0
      have x1 := (bW.cell (p := ⟨F, 1, none⟩) lA).trans c1
      have x2 := (bW.cell (p := ⟨F, 2, none⟩) lA).trans c2
      have x3 := (bW.cell (p := ⟨F, 3, none⟩) lA).trans c3
      refine ⟨og (tp ?_) (by kernel_rfl), og (tc ((spec8part k v s ha hn hc _).mono (by rintro e w1 ⟨rfl, hb⟩; rw [HD.out]; exact ⟨rfl, hb⟩)) (by kernel_rfl)) (by kernel_rfl), og (tp (by kernel_rfl)) (by kernel_rfl), og (tp (by kernel_rfl)) (by kernel_rfl), og (tp ?_) (by kernel_rfl), og (tp (by kernel_rfl)) (by kernel_rfl), og (tp ?_) (by kernel_rfl), og (tp ?_) (by kernel_rfl), og (tp ?_) (by kernel_rfl), og (tp (by kernel_rfl)) (by kernel_rfl), ou (by kernel_rfl), ou (by kernel_rfl), ou (by kernel_rfl), ou (by kernel_rfl), ou (by kernel_rfl), ou (by kernel_rfl), ou (by kernel_rfl), og (tp (by kernel_rfl)) (by kernel_rfl), og (tp (by kernel_rfl)) (by kernel_rfl), trivial⟩
      all_goals
        try simp only [fillK, putT, List.setIfInBounds_toArray, List.set_cons_zero, List.set_cons_succ]
        try unfold execOp
        try go_simp
        try rfl
    clear F0 ivh aph
    obtain ⟨y, hy⟩ : ∃ z, z = yW := ⟨_, rfl⟩
    rw [← hy] at bW ⊢
    clear hy
    have HB2 : Hid (Below w.heap.size w y) := HL.out.trans (bW.mono HL.out.size)
    clear c0 c1 c2 c3 lA bW
    refine wpAny_done (by kernel_rfl) ?_ _
    simp only [fillK, putT, List.setIfInBounds_toArray, List.set_cons_zero, List.set_cons_succ]
    go_wp2
    go_ret
    exact ⟨by rw [HE.out]; rfl, HB2.out⟩
  subst h2
  have hn192 : n ≤ 192 := by omega
  obtain ⟨b, q, rfl⟩ : ∃ b q, ha = some ⟨b, q, none⟩ := by
    rcases (HH.out _ HL.out).2.2.2.2 with h0 | ⟨b, q, e, _⟩
    · have := HN.out; omega
    · exact ⟨b, q, e⟩
  have hby : byteP hs := (HH.out _ HL.out).2.2.2.1
  have e1 := str_eq (sumOf_byte bs) hby
  obtain ⟨t1, ht1⟩ : ∃ t, t = strOfNums (sumOf bs) := ⟨_, rfl⟩
  obtain ⟨t2, ht2⟩ : ∃ t, t = strOfNums hs := ⟨_, rfl⟩
  rw [← ht1, ← ht2] at e1
  have HT1 : Hid (t1 = strOfNums (sumOf bs)) := ht1
  have HT2 : Hid (t2 = strOfNums hs) := ht2
  have HE : Hid (R = R) := rfl
  have hR2 : (t1.toList == t2.toList) = R := by
    rw [e1, HR.out, HD.out]
    simp
  clear HR e1 ht1 ht2 hby hs192
  try simp only [Act.put]
  refine tameG [kc 5 (.agg #[.int .i64 k, .int .i64 v, .int .i64 (n : Int), .slice (some ⟨b, q, none⟩) hn hc]), kc 6 (.bool true), kc 7 (.bool true), kc 8 (.slice a n c), kc 9 (.int .i64 (n : Int)), kc 10 (.pointer (some ⟨F, 2, none⟩)), kc 11 (.int .i64 (n : Int)), kc 12 (.bool true), kc 13 (.bool true), kc 14 (.bool true), kc 15 (.slice a n c), kv 16 (DSum F bs), kc 17 (.string t1), kc 18 (.pointer (some ⟨F, 3, none⟩)), kc 19 (.slice (some ⟨b, q, none⟩) hn hc), kc 20 (.string t2), kc 21 (.bool R), kc 22 (.bool R), kc 4 (.bool R)] 19 (by kernel_rfl) (by kernel_rfl) (by kernel_rfl) (by repeat' first | exact trivial | apply kc_keeps | apply dSum_keeps | constructor) 0 (by kernel_rfl) (fun vv ll hh yW bW => ?_) (fun vv ll hh yW bW F0 ivh aph => ?_)
  · have x0 := (bW.cell (p := ⟨F, 0, none⟩) lA).trans c0
    have x1 := (bW.cell (p := ⟨F, 1, none⟩) lA).trans c1
    have x2 := (bW.cell (p := ⟨F, 2, none⟩) lA).trans c2
    have x3 := (bW.cell (p := ⟨F, 3, none⟩) lA).trans c3
    have By : Below w.heap.size w yW := HL.out.trans (bW.mono HL.out.size)
    have hcv2 : (convert 22 9 (.slice (some ⟨b, q, none⟩) hn hc)).run Tryd.prog yW = .ok (.string t2) yW := by rw [HT2.out]; exact bs_conv (HH.out _ By)
    refine ⟨og (tp ?_) (by kernel_rfl), og (tc ((spec8part k v (n : Int) (some ⟨b, q, none⟩) hn hc _).mono (by rintro e w1 ⟨rfl, hb⟩; rw [HD.out]; exact ⟨rfl, hb⟩)) (by kernel_rfl)) (by kernel_rfl), og (tp (by kernel_rfl)) (by kernel_rfl), og (tp (by kernel_rfl)) (by kernel_rfl), og (tp ?_) (by kernel_rfl), og (tp (by kernel_rfl)) (by kernel_rfl), og (tp ?_) (by kernel_rfl), og (tp ?_) (by kernel_rfl), og (tp ?_) (by kernel_rfl), og (tp (by kernel_rfl)) (by kernel_rfl), og (tp (by kernel_rfl)) (by kernel_rfl), og (tfSum (by have := bW.size; omega) rfl (HS.out hn192 yW By) (by kernel_rfl)) (by kernel_rfl), og (tpx (fun x => by (obtain ⟨g, cc, e, oo⟩ : DSum F bs 0 0 yW (vv 11) := x ⟨11, .data⟩ (by simp) (by kernel_rfl) _ rfl; rw [e] at oo; have hcv1 : (convert 22 9 (.slice (some ⟨g, 0, none⟩) 32 cc)).run Tryd.prog yW = .ok (.string t1) yW := (by rw [HT1.out]; exact bs_conv (bs_of_own oo (sumOf_byte bs))); simp only [fillK, putT, List.setIfInBounds_toArray, List.set_cons_zero, List.set_cons_succ]; rw [e]; unfold execOp; go_simp))) (by kernel_rfl), og (tp (by kernel_rfl)) (by kernel_rfl), og (tp ?_) (by kernel_rfl), og (tp ?_) (by kernel_rfl), og (tp ?_) (by kernel_rfl), og (tp ?_) (by kernel_rfl), og (tp (by kernel_rfl)) (by kernel_rfl), trivial⟩
    all_goals
      try simp only [fillK, putT, List.setIfInBounds_toArray, List.set_cons_zero, List.set_cons_succ]
      try unfold execOp
      try go_simp
      try rfl
  clear F0 ivh aph
  obtain ⟨y, hy⟩ : ∃ z, z = yW := ⟨_, rfl⟩
  rw [← hy] at bW ⊢
  clear hy
  have HB2 : Hid (Below w.heap.size w y) := HL.out.trans (bW.mono HL.out.size)
  clear c0 c1 c2 c3 lA bW
  refine wpAny_done (by kernel_rfl) ?_ _
  simp only [fillK, putT, List.setIfInBounds_toArray, List.set_cons_zero, List.set_cons_succ]
  go_wp2
  go_ret
  exact ⟨rfl, HB2.out⟩
end Go.Proofs.YtofflhhlacdgfaaDoor
namespace Go.Proofs.YtofflhhlacdgfaaDoor
open Go.RowKit
set_option maxRecDepth 100000
set_option maxHeartbeats 4000000
set_option linter.unusedVariables false

theorem implFits (k v s : Int) (ha : Option Addr) (hn hc : Nat) (hs : List Int) (a : Option Addr) (n c : Nat) (bs : List Int) (w : World) (hH : Bs w ha hn hc hs) (hB : Bs w a n c bs) (ht : Tabs w) (hf : TabF w) :
    Calls Tryd.prog 25 #[partV k v s ha hn hc, .slice a n c] w fun e w' => e = .returned (.bool (fT k v s hs bs)) ∧ Below w.heap.size w w' := by
  obtain ⟨V, hV⟩ : ∃ V, V = w.alloc (.cells #[.int .i64 k, .int .i64 v, .int .i64 s, .slice ha hn hc] 45) := ⟨_, rfl⟩
  have B : Below w.heap.size w V := by rw [hV]; exact (Below.refl _ _).alloc (Nat.le_refl _) _
  have A : Arr V w.heap.size 45 [.int .i64 k, .int .i64 v, .int .i64 s, .slice ha hn hc] := by rw [hV]; exact Arr.new _ _ _
  have lA := A.lt
  have c0 := A.cell 0
  have c1 := A.cell 1
  have c2 := A.cell 2
  have c3 := A.cell 3
  simp at c0 c1 c2 c3
  obtain ⟨R, hR⟩ : ∃ R, R = fT k v s hs bs := ⟨_, rfl⟩
  rw [← hR]
  unfold fT at hR
  rw [hH.2.1, hB.2.1] at hR
  have HR : Hid (R = (decide (partOk k v s hn) && (decide ((n : Int) = s) && decide (sumOf bs = hs)))) := hR
  have HH : Hid (∀ Z, Below w.heap.size w Z → Bs Z ha hn hc hs) := fun Z hZ => hH.below hZ
  have HB : Hid (∀ Z, Below w.heap.size w Z → Bs Z a n c bs) := fun Z hZ => hB.below hZ
  have HS : Hid (n ≤ 192 → ∀ Z, Below w.heap.size w Z → Calls Tryd.prog 26 #[.slice a n c] Z fun e w' => ∃ u, e = .returned u ∧ w'.ownsRow Z.heap.size 5 1 u 32 (U8 (sumOf bs)) ∧ Below Z.heap.size Z w') := fun h Z hZ => by
    have := implSha256 a n c bs Z (hB.below hZ) (ht.below hZ) (hf.below hZ)
    have e : s256 bs = sumOf bs := if_pos (by have := hB.2.1; omega)
    rw [e, sumOf_len] at this
    exact this
  obtain ⟨F, hF⟩ : ∃ F, F = w.heap.size := ⟨_, rfl⟩
  have HL : Hid (Below w.heap.size w V) := B
  have HFs : Hid (F = w.heap.size) := hF
  rw [← hF] at lA c0 c1 c2 c3
  clear hR hH hB A B ht hf
  go_enter Tryd.func25, Tryd.ntmps25
  go_upto_region 1 with fail
  rw [← hV]
  rw [← hF]
  clear hV hF
  by_cases h1 : partOk k v s hn
  case neg =>
    have HD : Hid (decide (partOk k v s hn) = false) := decide_eq_false h1
    have HE : Hid (R = false) := by unfold Hid; rw [HR.out, HD.out]; rfl
    clear HR HS h1
    try simp only [Act.put]
    refine tameG [kc 5 (.agg #[.int .i64 k, .int .i64 v, .int .i64 s, .slice ha hn hc]), kc 6 (.bool false), kc 7 (.bool false), kc 8 (undef), kc 9 (undef), kc 10 (undef), kc 11 (undef), kc 12 (undef), kc 13 (.bool false), kc 14 (.bool false), kc 15 (undef), kc 16 (undef), kc 17 (undef), kc 18 (undef), kc 19 (undef), kc 20 (.bool false), kc 4 (.bool false)] 17 (by kernel_rfl) (by kernel_rfl) (by kernel_rfl) (by repeat' first | exact trivial | apply kc_keeps | apply dSum_keeps | constructor) 0 (by kernel_rfl) (fun vv ll hh yW bW => ?_) (fun vv ll hh yW bW F0 ivh aph => ?_)
    · have x0 := (bW.cell (p := ⟨F, 0, none⟩) lA).trans c0
      have x1 := (bW.cell (p := ⟨F, 1, none⟩) lA).trans c1
      have x2 := (bW.cell (p := ⟨F, 2, none⟩) lA).trans c2
      have x3 := (bW.cell (p := ⟨F, 3, none⟩) lA).trans c3
      refine ⟨og (tp ?_) (by kernel_rfl), og (tc ((implPartOk k v s ha hn hc _).mono (by rintro e w1 ⟨rfl, hb⟩; rw [HD.out]; exact ⟨rfl, hb⟩)) (by kernel_rfl)) (by kernel_rfl), og (tp (by kernel_rfl)) (by kernel_rfl), ou (by kernel_rfl), ou (by kernel_rfl), ou (by kernel_rfl), ou (by kernel_rfl), ou (by kernel_rfl), og (tp (by kernel_rfl)) (by kernel_rfl), og (tp (by kernel_rfl)) (by kernel_rfl), ou (by kernel_rfl), ou (by kernel_rfl), ou (by kernel_rfl), ou (by kernel_rfl), ou (by kernel_rfl), og (tp (by kernel_rfl)) (by kernel_rfl), og (tp (by kernel_rfl)) (by kernel_rfl), trivial⟩
      all_goals
        try simp only [fillK, putT, List.setIfInBounds_toArray, List.set_cons_zero, List.set_cons_succ]
        try unfold execOp
        try go_simp
        try rfl
    clear F0 ivh aph
    obtain ⟨y, hy⟩ : ∃ z, z = yW := ⟨_, rfl⟩
    rw [← hy] at bW ⊢
    clear hy
    have HB2 : Hid (Below w.heap.size w y) := HL.out.trans (bW.mono HL.out.size)
    clear c0 c1 c2 c3 lA bW
    refine wpAny_done (by kernel_rfl) ?_ _
    simp only [fillK, putT, List.setIfInBounds_toArray, List.set_cons_zero, List.set_cons_succ]
    go_wp2
    go_ret
    exact ⟨by rw [HE.out]; rfl, HB2.out⟩
  have HD : Hid (decide (partOk k v s hn) = true) := decide_eq_true h1
  have hs192 : s ≤ 192 := h1.2.2.1.2
  have h32 : hn = 32 := h1.2.2.2
  have HN : Hid (hn = 32) := h32
  clear h1 h32
  by_cases h2 : (n : Int) = s
  case neg =>
    have HE : Hid (R = false) := by unfold Hid; rw [HR.out, HD.out, decide_eq_false h2]; rfl
    have h2' : ((n : Int) == s) = false := by simpa using h2
    clear HR HS h2 hs192
    try simp only [Act.put]
    refine tameG [kc 5 (.agg #[.int .i64 k, .int .i64 v, .int .i64 s, .slice ha hn hc]), kc 6 (.bool true), kc 7 (.bool true), kc 8 (.slice a n c), kc 9 (.int .i64 (n : Int)), kc 10 (.pointer (some ⟨F, 2, none⟩)), kc 11 (.int .i64 s), kc 12 (.bool false), kc 13 (.bool false), kc 14 (.bool false), kc 15 (undef), kc 16 (undef), kc 17 (undef), kc 18 (undef), kc 19 (undef), kc 20 (.bool false), kc 4 (.bool false)] 17 (by kernel_rfl) (by kernel_rfl) (by kernel_rfl) (by repeat' first | exact trivial | apply kc_keeps | apply dSum_keeps | constructor) 0 (by kernel_rfl) (fun vv ll hh yW bW => ?_) (fun vv ll hh yW bW F0 ivh aph => ?_)
    · have x0 := (bW.cell (p := ⟨F, 0, none⟩) lA).trans c0
      have x1 := (bW.cell (p := ⟨F, 1, none⟩) lA).trans c1
      have x2 := (bW.cell (p := ⟨F, 2, none⟩) lA).trans c2
      have x3 := (bW.cell (p := ⟨F, 3, none⟩) lA).trans c3
      refine ⟨og (tp ?_) (by kernel_rfl), og (tc ((implPartOk k v s ha hn hc _).mono (by rintro e w1 ⟨rfl, hb⟩; rw [HD.out]; exact ⟨rfl, hb⟩)) (by kernel_rfl)) (by kernel_rfl), og (tp (by kernel_rfl)) (by kernel_rfl), og (tp (by kernel_rfl)) (by kernel_rfl), og (tp ?_) (by kernel_rfl), og (tp (by kernel_rfl)) (by kernel_rfl), og (tp ?_) (by kernel_rfl), og (tp ?_) (by kernel_rfl), og (tp ?_) (by kernel_rfl), og (tp (by kernel_rfl)) (by kernel_rfl), ou (by kernel_rfl), ou (by kernel_rfl), ou (by kernel_rfl), ou (by kernel_rfl), ou (by kernel_rfl), og (tp (by kernel_rfl)) (by kernel_rfl), og (tp (by kernel_rfl)) (by kernel_rfl), trivial⟩
      all_goals
        try simp only [fillK, putT, List.setIfInBounds_toArray, List.set_cons_zero, List.set_cons_succ]
        try unfold execOp
        try go_simp
        try rfl
    clear F0 ivh aph
    obtain ⟨y, hy⟩ : ∃ z, z = yW := ⟨_, rfl⟩
    rw [← hy] at bW ⊢
    clear hy
    have HB2 : Hid (Below w.heap.size w y) := HL.out.trans (bW.mono HL.out.size)
    clear c0 c1 c2 c3 lA bW
    refine wpAny_done (by kernel_rfl) ?_ _
    simp only [fillK, putT, List.setIfInBounds_toArray, List.set_cons_zero, List.set_cons_succ]
    go_wp2
    go_ret
    exact ⟨by rw [HE.out]; rfl, HB2.out⟩
  subst h2
  have hn192 : n ≤ 192 := by omega
  obtain ⟨b, q, rfl⟩ : ∃ b q, ha = some ⟨b, q, none⟩ := by
    rcases (HH.out _ HL.out).2.2.2.2 with h0 | ⟨b, q, e, _⟩
    · have := HN.out; omega
    · exact ⟨b, q, e⟩
  have HE : Hid (R = R) := rfl
  have HRx : Hid (R = decide (sumOf bs = hs)) := by
    unfold Hid
    rw [HR.out, HD.out]
    simp
  clear HR hs192
  try simp only [Act.put]
  refine tameG [kc 5 (.agg #[.int .i64 k, .int .i64 v, .int .i64 (n : Int), .slice (some ⟨b, q, none⟩) hn hc]), kc 6 (.bool true), kc 7 (.bool true), kc 8 (.slice a n c), kc 9 (.int .i64 (n : Int)), kc 10 (.pointer (some ⟨F, 2, none⟩)), kc 11 (.int .i64 (n : Int)), kc 12 (.bool true), kc 13 (.bool true), kc 14 (.bool true), kc 15 (.slice a n c), kv 16 (DSum F bs), kc 17 (.pointer (some ⟨F, 3, none⟩)), kc 18 (.slice (some ⟨b, q, none⟩) hn hc), kc 19 (.bool R), kc 20 (.bool R), kc 4 (.bool R)] 17 (by kernel_rfl) (by kernel_rfl) (by kernel_rfl) (by repeat' first | exact trivial | apply kc_keeps | apply dSum_keeps | constructor) 0 (by kernel_rfl) (fun vv ll hh yW bW => ?_) (fun vv ll hh yW bW F0 ivh aph => ?_)
  · have x0 := (bW.cell (p := ⟨F, 0, none⟩) lA).trans c0
    have x1 := (bW.cell (p := ⟨F, 1, none⟩) lA).trans c1
    have x2 := (bW.cell (p := ⟨F, 2, none⟩) lA).trans c2
    have x3 := (bW.cell (p := ⟨F, 3, none⟩) lA).trans c3
    have By : Below w.heap.size w yW := HL.out.trans (bW.mono HL.out.size)
    refine ⟨og (tp ?_) (by kernel_rfl), og (tc ((implPartOk k v (n : Int) (some ⟨b, q, none⟩) hn hc _).mono (by rintro e w1 ⟨rfl, hb⟩; rw [HD.out]; exact ⟨rfl, hb⟩)) (by kernel_rfl)) (by kernel_rfl), og (tp (by kernel_rfl)) (by kernel_rfl), og (tp (by kernel_rfl)) (by kernel_rfl), og (tp ?_) (by kernel_rfl), og (tp (by kernel_rfl)) (by kernel_rfl), og (tp ?_) (by kernel_rfl), og (tp ?_) (by kernel_rfl), og (tp ?_) (by kernel_rfl), og (tp (by kernel_rfl)) (by kernel_rfl), og (tp (by kernel_rfl)) (by kernel_rfl), og (tfSum (by have := bW.size; omega) rfl (HS.out hn192 yW By) (by kernel_rfl)) (by kernel_rfl), og (tp (by kernel_rfl)) (by kernel_rfl), og (tp ?_) (by kernel_rfl), og (tr (f := 79) (args := #[vv 11, .slice (some ⟨b, q, none⟩) hn hc]) (fun x => by (obtain ⟨g, cc, e, oo⟩ : DSum F bs 0 0 yW (vv 11) := x ⟨11, .data⟩ (by simp) (by kernel_rfl) _ rfl; rw [e] at oo; rw [e]; refine (equalB g 0 32 cc b q hn hc (sumOf bs) hs yW (bs_of_own oo (sumOf_byte bs)) (HH.out _ By)).mono ?_; rintro e2 w2 ⟨rfl, rfl⟩; exact ⟨_, rfl, undef, by rw [HRx.out], Below.refl _ _, trivial⟩)) (by kernel_rfl)) (by kernel_rfl), og (tp ?_) (by kernel_rfl), og (tp (by kernel_rfl)) (by kernel_rfl), trivial⟩
    all_goals
      try simp only [fillK, putT, List.setIfInBounds_toArray, List.set_cons_zero, List.set_cons_succ]
      try unfold execOp
      try go_simp
      try rfl
  clear F0 ivh aph
  obtain ⟨y, hy⟩ : ∃ z, z = yW := ⟨_, rfl⟩
  rw [← hy] at bW ⊢
  clear hy
  have HB2 : Hid (Below w.heap.size w y) := HL.out.trans (bW.mono HL.out.size)
  clear c0 c1 c2 c3 lA bW
  refine wpAny_done (by kernel_rfl) ?_ _
  simp only [fillK, putT, List.setIfInBounds_toArray, List.set_cons_zero, List.set_cons_succ]
  go_wp2
  go_ret
  exact ⟨rfl, HB2.out⟩
end Go.Proofs.YtofflhhlacdgfaaDoor

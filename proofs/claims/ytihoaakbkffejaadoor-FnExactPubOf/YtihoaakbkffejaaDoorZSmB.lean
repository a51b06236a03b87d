/-
  What is proved here: contracts of two helpers of the exact laws (mark a slice of bytes, look whether the marks are held), for every slice of at most 2^21 bytes; what a row's list of laid variables gives the walks, that the named variables read again as they did where nothing old has turned, and how arguments of the laws' own Pt and Sc types lie in memory; no condition; what a row's list of laid variables gives the walks of chapter 7; no condition.
-/
import Derived.Test.YtihoaakbkffejaaDoorZTmd
import Derived.Test.YtihoaakbkffejaaDoorRows
import Derived.Test.YtihoaakbkffejaaDoorZFw
import Derived.Test.YtihoaakbkffejaaDoorZJhi
import Derived.Test.YtihoaakbkffejaaDoorZFyq
import Derived.ProofKit
import Derived.WalkKit
import Derived.LaidMore
import Derived.OpenShut
import Derived.Stop.Joined
import Derived.Lib.LaidTab
import Derived.ChangeOld
import Derived.ChangeSame
import Derived.Below
import Derived.Test.YtihoaakbkffejaaDoorZGpw
namespace Go.Proofs.YtihoaakbkffejaaDoor
open Go.RowKit

/-- The marks: k0, k0 + 1, .. as bytes. -/
def marks (k0 : Int) (n : Nat) : List Int := (List.range n).map (fun j : Nat => (k0 + (j : Int)) % 256)
theorem marks_len (k0 : Int) (n : Nat) : (marks k0 n).length = n := by simp [marks]
theorem marks_get (k0 : Int) (n k : Nat) (h : k < n) : (marks k0 n).getD k 0 = (k0 + (k : Int)) % 256 := by simp [marks, h]
theorem marks_byte (k0 : Int) (n : Nat) : ∀ x ∈ marks k0 n, 0 ≤ x ∧ x < 256 := by
  intro x hx; simp only [marks, List.mem_map] at hx; obtain ⟨j, _, rfl⟩ := hx; omega
theorem set_marks (xs : List Int) (k0 : Int) (n k : Nat) (h : k < n) (hn : xs.length = n) :
    (U8 (marks k0 k ++ xs.drop k)).set k (.int .u8 ((k0 + (k : Int)) % 256)) = U8 (marks k0 (k + 1) ++ xs.drop (k + 1)) := by
  have e : xs.drop k = xs.getD k 0 :: xs.drop (k + 1) := by
    rw [List.drop_eq_getElem_cons (by omega)]; simp [show k < xs.length by omega]
  have e2 : marks k0 (k + 1) = marks k0 k ++ [(k0 + (k : Int)) % 256] := by simp [marks, List.range_succ]
  rw [e, e2]
  simp only [U8, List.map_append, List.map_cons]
  rw [List.set_append_right _ _ (by simp [marks_len])]
  simp [marks_len]

set_option maxHeartbeats 400000 in
theorem markB (B n : Nat) (v : Value) (k0 : Int) (xs : List Int) (w : World) (hown : w.ownsRow B 5 1 v n (U8 xs)) (hn : n ≤ 2097152) (h0 : 0 ≤ k0) (h1 : k0 ≤ 10000000) :
    Calls Tryd.prog 8 #[v, .int .i64 k0] w fun e w' => e = .returned (.int .i64 (k0 + n)) ∧ w'.ownsRow B 5 1 v n (U8 (marks k0 n)) ∧ w.grownBy w' v.ownBlock := by
  obtain ⟨hl, hs⟩ := own_shape hown
  rcases hs with ⟨rfl, rfl⟩ | ⟨g, cap, rfl, hg, hgs, hnc, hcm, hc, hf⟩
  · go_enter Tryd.func8, Tryd.ntmps8
    go_wp2
    refine wp_loop_rounds 1 ?_
    rw [rounds_succ]
    go_wp2
    go_ret
    exact ⟨by simp, by simpa [marks] using World.ownsRow_nil w B 5 1, World.grownBy.refl _ _⟩
  · have hown0 : w.ownsRow B 5 1 (.slice (some ⟨g, 0, none⟩) n cap) n (U8 (marks k0 0 ++ xs.drop 0)) := by simpa [marks] using hown
    clear hown hc hf
    go_enter Tryd.func8, Tryd.ntmps8
    go_wp2
    go_loopw [1, 5] (fun m i wr => ∃ k : Nat, k ≤ n ∧ i = .int .i64 k ∧ m = .int .i64 (k0 + k) ∧ wr.ownsRow B 5 1 (.slice (some ⟨g, 0, none⟩) n cap) n (U8 (marks k0 k ++ xs.drop k)) ∧ w.grownBy wr (some g)) (fun _ i _ => n - (intOf i).toNat)
    case atStart => exact ⟨0, Nat.zero_le _, rfl, by simp, hown0, World.grownBy.refl _ _⟩
    case round =>
      obtain ⟨k, hk, rfl, rfl, hown, hb⟩ := hrel
      clear hown0
      by_cases hlt : k < n
      · have hfz := hown.frozenAt k
        obtain ⟨u, hu⟩ : ∃ u, wr.cell? ⟨g, k, none⟩ = some u := by
          rw [hown.cellAt k (by omega)]
          have : k < (U8 (marks k0 k ++ xs.drop k)).length := by simp [marks_len]; omega
          exact ⟨_, List.getElem?_eq_getElem this⟩
        have hst := hown.stored k (.int .u8 ((k0 + (k : Int)) % 256))
        rw [set_marks xs k0 n k hlt hl] at hst
        have HS : Hid _ := hst
        have HB : Hid _ := hb
        have hcv : IntKind.u8.wrap (k0 + (k : Int)) = (k0 + (k : Int)) % 256 := by simp [IntKind.wrap, IntKind.signed, IntKind.bits]
        clear hst hb hown
        go_wp2
        go_roundw
        case rel => exact ⟨k + 1, by omega, by go_num, by go_num, HS.out.1, grown_trans HB.out HS.out.2⟩
        case measure => simp [intOf]; omega
      · have hkn : k = n := by omega
        subst hkn
        go_wp2
        go_ret
        refine ⟨rfl, ?_, hb⟩
        simpa [List.drop_eq_nil_of_le (show xs.length ≤ k by omega)] using hown

set_option maxHeartbeats 400000 in
theorem heldB (a : Option Addr) (n cap : Nat) (k0 : Int) (w : World) (h : Bs w a n cap (marks k0 n)) (hn : n ≤ 2097152) (h0 : 0 ≤ k0) (h1 : k0 ≤ 10000000) :
    Calls Tryd.prog 9 #[.slice a n cap, .int .i64 k0] w fun e w' => e = .returned (.int .i64 (k0 + n)) ∧ w' = w := by
  obtain ⟨_, hl, hc, _, h⟩ := h
  go_enter Tryd.func9, Tryd.ntmps9
  go_wp2
  go_loop [1, 5] (fun m i => ∃ k : Nat, k ≤ n ∧ i = .int .i64 k ∧ m = .int .i64 (k0 + k)) (fun _ i => n - (intOf i).toNat)
  case atStart => exact ⟨0, Nat.zero_le _, rfl, by simp⟩
  case round =>
    obtain ⟨k, hk, rfl, rfl⟩ := hrel
    by_cases hlt : k < n
    · rcases h with h | ⟨b, o, rfl, hbs, hcell⟩
      · omega
      · have hck : w.cell? ⟨b, o + k, none⟩ = some (.int .u8 ((k0 + (k : Int)) % 256)) := by rw [← marks_get k0 n k hlt]; exact hcell k hlt
        have hcv : IntKind.u8.wrap (k0 + (k : Int)) = (k0 + (k : Int)) % 256 := by simp [IntKind.wrap, IntKind.signed, IntKind.bits]
        have hxx : (((k0 + (k : Int)) % 256) != ((k0 + (k : Int)) % 256)) = false := by simp
        clear hcell
        go_wp2
        go_round
        case rel => exact ⟨k + 1, by omega, by go_num, by go_num⟩
        case measure => simp [intOf]; omega
    · have hkn : k = n := by omega
      subst hkn
      go_wp2
      go_ret
      exact ⟨rfl, rfl⟩
end Go.Proofs.YtihoaakbkffejaaDoor
namespace Go.Proofs.YtihoaakbkffejaaDoor
open Go.ChangeShapes Go.WideShapes Go.ChangeAt Go.RowKit
set_option maxRecDepth 100000

theorem own : ownKnob Tryd.prog.godebug = none := by kernel_rfl
theorem laidOut : laidOutB Tryd.prog = true := by kernel_rfl
theorem gPrime : Tryd.prog.globalNamed "loop.example/g00412/impl.fieldPrime" = some 6 := by kernel_rfl
theorem tPrime : (Tryd.prog.globals[6]?).map (·.type) = some 81 := by kernel_rfl
theorem gOrder : Tryd.prog.globalNamed "loop.example/g00412/impl.groupOrder" = some 5 := by kernel_rfl
theorem tOrder : (Tryd.prog.globals[5]?).map (·.type) = some 81 := by kernel_rfl
theorem gD : Tryd.prog.globalNamed "loop.example/g00412/impl.curveD" = some 7 := by kernel_rfl
theorem tD : (Tryd.prog.globals[7]?).map (·.type) = some 81 := by kernel_rfl
theorem gBX : Tryd.prog.globalNamed "loop.example/g00412/impl.curveBaseX" = some 1 := by kernel_rfl
theorem tBX : (Tryd.prog.globals[1]?).map (·.type) = some 81 := by kernel_rfl
theorem gBY : Tryd.prog.globalNamed "loop.example/g00412/impl.curveBaseY" = some 2 := by kernel_rfl
theorem tBY : (Tryd.prog.globals[2]?).map (·.type) = some 81 := by kernel_rfl

theorem vr_of {W : World} {n : String} {g : Nat} {cs : Array Value} {l : List Value} (hg : Tryd.prog.globalNamed n = some g) (hv : W.var? Tryd.prog n = some cs) (hl : cs.toList = l) : Vr W g l := by
  unfold World.var? at hv
  rw [hg] at hv
  simp only [Option.bind_some] at hv
  split at hv
  · rename_i cs' t z he
    cases hv
    exact ⟨t, z, by rw [he, ← hl]⟩
  · cases hv
theorem vPrime {H : Type} {enc : TypeId × Value → H} {W : World} {sp : Nat → Bool} {held : Bool} {f : Nat} {cs : Array Value} {p : List MemPlace} (hv : W.var? Tryd.prog "loop.example/g00412/impl.fieldPrime" = some cs) (h : DataW.trod enc Tryd.prog W 0 sp held f 81 cs.toList = some (Rows.laid_loop_example_g00412_impl_fieldPrime, p)) : Vr W 6 (I64 PL) :=
  vr_of gPrime hv (Lib.cells_of_tab (zs := PL) Tryd.underlying81 Tryd.underlying3 (by kernel_rfl) (by kernel_rfl) h)
theorem vOrder {H : Type} {enc : TypeId × Value → H} {W : World} {sp : Nat → Bool} {held : Bool} {f : Nat} {cs : Array Value} {p : List MemPlace} (hv : W.var? Tryd.prog "loop.example/g00412/impl.groupOrder" = some cs) (h : DataW.trod enc Tryd.prog W 0 sp held f 81 cs.toList = some (Rows.laid_loop_example_g00412_impl_groupOrder, p)) : Vr W 5 (I64 OL) :=
  vr_of gOrder hv (Lib.cells_of_tab (zs := OL) Tryd.underlying81 Tryd.underlying3 (by kernel_rfl) (by kernel_rfl) h)
theorem vD {H : Type} {enc : TypeId × Value → H} {W : World} {sp : Nat → Bool} {held : Bool} {f : Nat} {cs : Array Value} {p : List MemPlace} (hv : W.var? Tryd.prog "loop.example/g00412/impl.curveD" = some cs) (h : DataW.trod enc Tryd.prog W 0 sp held f 81 cs.toList = some (Rows.laid_loop_example_g00412_impl_curveD, p)) : Vr W 7 (I64 DL) :=
  vr_of gD hv (Lib.cells_of_tab (zs := DL) Tryd.underlying81 Tryd.underlying3 (by kernel_rfl) (by kernel_rfl) h)
theorem vBX {H : Type} {enc : TypeId × Value → H} {W : World} {sp : Nat → Bool} {held : Bool} {f : Nat} {cs : Array Value} {p : List MemPlace} (hv : W.var? Tryd.prog "loop.example/g00412/impl.curveBaseX" = some cs) (h : DataW.trod enc Tryd.prog W 0 sp held f 81 cs.toList = some (Rows.laid_loop_example_g00412_impl_curveBaseX, p)) : Vr W 1 (I64 BX) :=
  vr_of gBX hv (Lib.cells_of_tab (zs := BX) Tryd.underlying81 Tryd.underlying3 (by kernel_rfl) (by kernel_rfl) h)
theorem vBY {H : Type} {enc : TypeId × Value → H} {W : World} {sp : Nat → Bool} {held : Bool} {f : Nat} {cs : Array Value} {p : List MemPlace} (hv : W.var? Tryd.prog "loop.example/g00412/impl.curveBaseY" = some cs) (h : DataW.trod enc Tryd.prog W 0 sp held f 81 cs.toList = some (Rows.laid_loop_example_g00412_impl_curveBaseY, p)) : Vr W 2 (I64 BY) :=
  vr_of gBY hv (Lib.cells_of_tab (zs := BY) Tryd.underlying81 Tryd.underlying3 (by kernel_rfl) (by kernel_rfl) h)
theorem var_below {W W' : World} {n : String} {cs : Array Value} (hb : Below W.heap.size W W') (h : W.var? Tryd.prog n = some cs) : W'.var? Tryd.prog n = some cs := by
  unfold World.var? at h ⊢
  cases hg : Tryd.prog.globalNamed n with
  | none => rw [hg] at h; cases h
  | some g =>
    rw [hg] at h
    simp only [Option.bind_some] at h ⊢
    by_cases hlt : g < W.heap.size
    · rw [hb.block g hlt]; exact h
    · rw [Array.getElem?_eq_none (by omega)] at h
      cases h
theorem vars_carry {H : Type} {enc : TypeId × Value → H} {W W' : World} (hb : Below W.heap.size W W') : ∀ {ns : List String} {gs : List (DataW H)} {ps : List MemPlace},
    (∀ n ∈ ns, ∀ g t, Tryd.prog.globalNamed n = some g → (Tryd.prog.globals[g]?).map (·.type) = some t → Tryd.prog.readableRec t = true ∧ t < Tryd.prog.types.size) →
    DataW.TrodVars enc Tryd.prog W (fun _ => true) ns gs ps → DataW.TrodVars enc Tryd.prog W' (fun b => decide (b < W.heap.size)) ns gs ps
  | [], [], _, _, h => h
  | n :: ns, d :: ds, ps, hr, h => by
    obtain ⟨g, t, cs, fuel, p, q, h1, h2, h3, h4, hs, e⟩ := h
    obtain ⟨r1, r2⟩ := hr n (by simp) g t h1 h2
    have hT : DataW.Trod enc Tryd.prog W 0 (fun _ => true) true t (.agg cs) d p := ⟨fuel, h4⟩
    obtain ⟨fuel', h4'⟩ := Below.trod laidOut r1 r2 hT hb (DataW.trod_lt _ _ _ _ h4)
    exact ⟨g, t, cs, fuel', p, q, h1, h2, var_below hb h3, h4', vars_carry hb (fun n hn => hr n (by simp [hn])) hs, e⟩
  | [], _ :: _, _, _, h => by cases h
  | _ :: _, [], _, _, h => by cases h

end Go.Proofs.YtihoaakbkffejaaDoor
namespace Go.Proofs.YtihoaakbkffejaaDoor
open Go.ChangeShapes Go.WideShapes Go.ChangeAt Go.RowKit
set_option maxRecDepth 100000

theorem gWFirst : Tryd.prog.globalNamed "loop.example/g00412/impl.wideFirst" = some 0 := by kernel_rfl
theorem tWFirst : (Tryd.prog.globals[0]?).map (·.type) = some 52 := by kernel_rfl
theorem gWRounds : Tryd.prog.globalNamed "loop.example/g00412/impl.wideRoundWords" = some 3 := by kernel_rfl
theorem tWRounds : (Tryd.prog.globals[3]?).map (·.type) = some 69 := by kernel_rfl
theorem gWTurns : Tryd.prog.globalNamed "loop.example/g00412/impl.wideTurns" = some 4 := by kernel_rfl
theorem tWTurns : (Tryd.prog.globals[4]?).map (·.type) = some 76 := by kernel_rfl
theorem wturns_of {H : Type} {enc : TypeId × Value → H} {W : World} {sp : Nat → Bool} {held : Bool} {f : Nat} {cs : List Value} {p : List MemPlace}
    (h : DataW.trod enc Tryd.prog W 0 sp held f 76 cs = some (Rows.laid_loop_example_g00412_impl_wideTurns, p)) : cs = [28, 34, 39, 14, 18, 41, 1, 8, 7, 19, 61, 6].map (Value.int .i64) := by
  obtain ⟨xs, m, _, hx, hlen, hn, hel⟩ := DataW.trod_array Tryd.underlying76 h
  have c88 : Tryd.prog.cellsOf 75 = 3 := by kernel_rfl
  have c89 : Tryd.prog.cellsOf 76 = 12 := by kernel_rfl
  have c3 : Tryd.prog.cellsOf 3 = 1 := by kernel_rfl
  rw [c89] at hlen
  match xs, hn with
  | [x0, x1, x2, x3], _ =>
    have h0 := hel 0 (by decide)
    have h1 := hel 1 (by decide)
    have h2 := hel 2 (by decide)
    have h3 := hel 3 (by decide)
    simp only [c88] at h0 h1 h2 h3
    have hx' := congrArg Prod.fst hx
    simp only [Rows.laid_loop_example_g00412_impl_wideTurns, List.map_cons, List.map_nil, DataW.agg.injEq, List.cons.injEq, and_true] at hx'
    obtain ⟨e0, e1, e2, e3⟩ := hx'
    have row : ∀ (x : DataW H × List MemPlace) (l : List Value) (zs : List Int), DataW.trod enc Tryd.prog W 0 sp held m 75 l = some x → Lib.tabData .i64 zs = x.1 → l = zs.map (Value.int .i64) := by
      intro x l zs hh he
      have : x = (Lib.tabData .i64 zs, x.2) := by rw [he]
      rw [this] at hh
      exact Lib.cells_of_tab Tryd.underlying75 Tryd.underlying3 c3 c88 hh
    have r0 := row x0 _ [28, 34, 39] h0 e0
    have r1 := row x1 _ [14, 18, 41] h1 e1
    have r2 := row x2 _ [1, 8, 7] h2 e2
    have r3 := row x3 _ [19, 61, 6] h3 e3
    have hcs : cs = (cs.drop (0 * 3)).take 3 ++ ((cs.drop (1 * 3)).take 3 ++ ((cs.drop (2 * 3)).take 3 ++ (cs.drop (3 * 3)).take 3)) := by
      match cs, hlen with
      | [a0, a1, a2, a3, a4, a5, a6, a7, a8, a9, a10, a11], _ => rfl
    rw [hcs, r0, r1, r2, r3]
    rfl

theorem vWFirst {H : Type} {enc : TypeId × Value → H} {W : World} {sp : Nat → Bool} {held : Bool} {f : Nat} {cs : Array Value} {p : List MemPlace} (hv : W.var? Tryd.prog "loop.example/g00412/impl.wideFirst" = some cs) (h : DataW.trod enc Tryd.prog W 0 sp held f 52 cs.toList = some (Rows.laid_loop_example_g00412_impl_wideFirst, p)) : Vr W 0 (H0W.map (Value.int .u64)) :=
  vr_of gWFirst hv (Lib.cells_of_tab (zs := H0W) Tryd.underlying52 Tryd.underlying51 (by kernel_rfl) (by kernel_rfl) h)
theorem vWRounds {H : Type} {enc : TypeId × Value → H} {W : World} {sp : Nat → Bool} {held : Bool} {f : Nat} {cs : Array Value} {p : List MemPlace} (hv : W.var? Tryd.prog "loop.example/g00412/impl.wideRoundWords" = some cs) (h : DataW.trod enc Tryd.prog W 0 sp held f 69 cs.toList = some (Rows.laid_loop_example_g00412_impl_wideRoundWords, p)) : Vr W 3 (KW.map (Value.int .u64)) :=
  vr_of gWRounds hv (Lib.cells_of_tab (zs := KW) Tryd.underlying69 Tryd.underlying51 (by kernel_rfl) (by kernel_rfl) h)
theorem vWTurns {H : Type} {enc : TypeId × Value → H} {W : World} {sp : Nat → Bool} {held : Bool} {f : Nat} {cs : Array Value} {p : List MemPlace} (hv : W.var? Tryd.prog "loop.example/g00412/impl.wideTurns" = some cs) (h : DataW.trod enc Tryd.prog W 0 sp held f 76 cs.toList = some (Rows.laid_loop_example_g00412_impl_wideTurns, p)) : Vr W 4 ([28, 34, 39, 14, 18, 41, 1, 8, 7, 19, 61, 6].map (Value.int .i64)) :=
  vr_of gWTurns hv (wturns_of h)
theorem laid_vars {W : World} (h : laidMetH Tryd.prog [("loop.example/g00412/impl.wideTurns", Rows.laid_loop_example_g00412_impl_wideTurns), ("loop.example/g00412/impl.wideFirst", Rows.laid_loop_example_g00412_impl_wideFirst), ("loop.example/g00412/impl.wideRoundWords", Rows.laid_loop_example_g00412_impl_wideRoundWords), ("loop.example/g00412/impl.fieldPrime", Rows.laid_loop_example_g00412_impl_fieldPrime), ("loop.example/g00412/impl.groupOrder", Rows.laid_loop_example_g00412_impl_groupOrder), ("loop.example/g00412/impl.curveD", Rows.laid_loop_example_g00412_impl_curveD), ("loop.example/g00412/impl.curveBaseX", Rows.laid_loop_example_g00412_impl_curveBaseX), ("loop.example/g00412/impl.curveBaseY", Rows.laid_loop_example_g00412_impl_curveBaseY)] W) : VarsOk W := by
  rw [MakeChecks.laidMetH_plain _ _ _ (by kernel_rfl)] at h
  obtain ⟨ps, ⟨g0, t0, cs0, f0, p0, q0, hg0, ht0, hv0, hd0, ⟨g1, t1, cs1, f1, p1, q1, hg1, ht1, hv1, hd1, ⟨g2, t2, cs2, f2, p2, q2, hg2, ht2, hv2, hd2, ⟨g3, t3, cs3, f3, p3, q3, hg3, ht3, hv3, hd3, ⟨g4, t4, cs4, f4, p4, q4, hg4, ht4, hv4, hd4, ⟨g5, t5, cs5, f5, p5, q5, hg5, ht5, hv5, hd5, ⟨g6, t6, cs6, f6, p6, q6, hg6, ht6, hv6, hd6, ⟨g7, t7, cs7, f7, p7, q7, hg7, ht7, hv7, hd7, _, _⟩, _⟩, _⟩, _⟩, _⟩, _⟩, _⟩, _⟩, _, _⟩ := h
  obtain rfl := Option.some.inj (gWTurns.symm.trans hg0)
  obtain rfl := Option.some.inj (tWTurns.symm.trans ht0)
  obtain rfl := Option.some.inj (gWFirst.symm.trans hg1)
  obtain rfl := Option.some.inj (tWFirst.symm.trans ht1)
  obtain rfl := Option.some.inj (gWRounds.symm.trans hg2)
  obtain rfl := Option.some.inj (tWRounds.symm.trans ht2)
  obtain rfl := Option.some.inj (gPrime.symm.trans hg3)
  obtain rfl := Option.some.inj (tPrime.symm.trans ht3)
  obtain rfl := Option.some.inj (gOrder.symm.trans hg4)
  obtain rfl := Option.some.inj (tOrder.symm.trans ht4)
  obtain rfl := Option.some.inj (gD.symm.trans hg5)
  obtain rfl := Option.some.inj (tD.symm.trans ht5)
  obtain rfl := Option.some.inj (gBX.symm.trans hg6)
  obtain rfl := Option.some.inj (tBX.symm.trans ht6)
  obtain rfl := Option.some.inj (gBY.symm.trans hg7)
  obtain rfl := Option.some.inj (tBY.symm.trans ht7)
  exact ⟨vPrime hv3 hd3, vD hv5 hd5, vOrder hv4 hd4, vBX hv6 hd6, vBY hv7 hd7, ⟨vWTurns hv0 hd0, vWRounds hv2 hd2⟩, vWFirst hv1 hd1⟩
end Go.Proofs.YtihoaakbkffejaaDoor

/-
  What is proved here: what the program's lineOf answers; what both sides' lines come to where the numbers stand in a literal; records and states as plain data; no program is spoken of; the contract of the program's isIn; what the laws' eqRec, eqBoot and both sides' small tests of numbers answer.
-/
import Derived.Test.YtgfjbaigmkdbcaaDoorJB5
import Derived.Lib.AppendIntMem
import Derived.Lib.AtoiErrMem
import Derived.Test.YtgfjbaigmkdbcaaDoorJB4
import Derived.Test.YtgfjbaigmkdbcaaDoorJB1
import Derived.Deep.CutRange
namespace Go.Proofs.YtgfjbaigmkdbcaaDoor
open Go.RowKit
set_option maxRecDepth 100000
set_option maxHeartbeats 4000000
set_option linter.unusedVariables false

theorem appUint (base : Nat) (v : Value) (n : Nat) (xs : List Int) (u : Nat) (w : World) (h : ownM w base v n xs) (hn : n ≤ 1000000) (hb : base ≤ w.heap.size) (hu : u ≤ 1000000) (ht : Pow w) :
    Calls Tryd.prog 72 #[v, .int .u64 (u : Int), .int .i64 10] w fun e w' => ∃ v', e = .returned v' ∧ ownM w' base v' (n + (dgs u).length) (xs ++ dgs u) ∧ Below base w w' := by
  by_cases h0 : u < 100
  · exact appUintS base v n xs u w h hn hb h0
  · exact appUintB base v n xs u w h hn hb (by omega) hu ht
theorem appIntI (base : Nat) (v : Value) (n : Nat) (xs : List Int) (u : Nat) (w : World) (h : ownM w base v n xs) (hn : n ≤ 1000000) (hb : base ≤ w.heap.size) (hu : u ≤ 1000000) (ht : Pow w) :
    Calls Tryd.prog 70 #[v, .int .i64 (u : Int), .int .i64 10] w fun e w' => ∃ v', e = .returned v' ∧ ownM w' base v' (n + (dgs u).length) (xs ++ dgs u) ∧ Below base w w' := by
  have hw : IntKind.u64.wrap (u : Int) = (u : Int) := by rw [IntKind.wrap_u64]; omega
  have hneg : ¬ (u : Int) < 0 := by omega
  have HC : Hid _ := appUint base v n xs u w h hn hb hu ht
  clear h ht
  go_enter Tryd.func70, Tryd.ntmps70
  go_wp2_with fail
  refine Calls.mono HC.out ?_
  rintro e w1 ⟨v1, rfl, o, hB⟩
  go_wp2
  go_ret
  exact ⟨_, rfl, o, hB⟩
theorem appInt (base : Nat) (v : Value) (n : Nat) (xs : List Int) (u : Nat) (w : World) (h : ownM w base v n xs) (hn : n ≤ 1000000) (hb : base ≤ w.heap.size) (hu : u ≤ 1000000) (ht : Pow w) :
    Calls Tryd.prog 61 #[v, .int .i64 (u : Int), .int .i64 10] w fun e w' => ∃ v', e = .returned v' ∧ ownM w' base v' (n + (dgs u).length) (xs ++ dgs u) ∧ Below base w w' := by
  have HC : Hid _ := appIntI base v n xs u w h hn hb hu ht
  clear h ht
  go_enter Tryd.func61, Tryd.ntmps61
  go_wp2_with fail
  refine Calls.mono HC.out ?_
  rintro e w1 ⟨v1, rfl, o, hB⟩
  go_wp2
  go_ret
  exact ⟨_, rfl, o, hB⟩
theorem implLineOf (s : ByteArray) (a : Option Addr) (m c : Nat) (ns : List Int) (w : World) (hs : s.size ≤ 1000) (hI : Is w a m c ns) (hm : m ≤ 100) (hns : nsOk ns) (ht : Pow w) :
    Calls Tryd.prog 32 #[.string s, .slice a m c] w fun e w' => ∃ v, e = .returned v ∧ ownM w' w.heap.size v (lnL (stB s) ns).length (lnL (stB s) ns) ∧ Below w.heap.size w w' := by
  have hsl := stB_len s
  have HI : Hid (Is w a m c ns) := hI
  have HNS : Hid (nsOk ns) := hns
  have HT : Hid (Lib.TabBelow Tryd.prog w.heap.size w "internal/strconv.uint64pow10" .u64 Lib.pow10Tab) := Lib.tabBelow_of_tabIs ht
  have HLn : Hid (ns.length = m) := hI.2.1
  obtain ⟨cap, hcap⟩ : ∃ q, q = grownCap w s.size 0 5 := ⟨_, rfl⟩
  have hcv := Lib.run_convert_string_bytes (P := Tryd.prog) w 9 27 5 s Tryd.underlying9 Tryd.underlying27 Tryd.underlying5
  have ho := conv_M w s (by omega)
  have hB := Lib.bytesWorld_below w 5 s
  rw [← hcap] at hcv ho
  obtain ⟨V, hV⟩ : ∃ V, V = Lib.bytesWorld w 5 s := ⟨_, rfl⟩
  rw [← hV] at hcv ho hB
  have HO0 : Hid (ownM V w.heap.size (.slice (some ⟨w.heap.size, 0, none⟩) s.size cap) (stB s).length (stB s)) := by unfold Hid; rw [hsl]; exact ho
  have HB0 : Hid (Below w.heap.size w V) := hB
  obtain ⟨Y, hY⟩ : ∃ Y, Y = stB s := ⟨_, rfl⟩
  have hYl : Y.length ≤ 1000 := by rw [hY]; omega
  have HE : Hid (∀ l, lnL (stB s) l = Y ++ nmL l ++ [10]) := fun l => by rw [hY]; simp [lnL]
  rw [← hY] at HO0
  clear hI hns ht ho hB hsl hcap hV hY
  go_enter Tryd.func32, Tryd.ntmps32
  go_wp2
  clear hcv
  go_loopw [5, 12] (fun v i wr => ∃ k : Nat, k ≤ m ∧ i = .int .i64 k ∧ Hid (ownM wr w.heap.size v (Y ++ nmL (ns.take k)).length (Y ++ nmL (ns.take k))) ∧ Hid (Below w.heap.size w wr)) (fun _ i _ => m - (intOf i).toNat)
  case atStart => exact ⟨0, by omega, rfl, by rw [show Y ++ nmL (ns.take 0) = Y by simp [nmL]]; exact HO0, HB0⟩
  case round =>
    clear HO0 HB0
    obtain ⟨k, hk, rfl, HO, HB⟩ := hrel
    by_cases hlt : k < m
    · obtain ⟨b, o, rfl, hbs, hcell⟩ : ∃ b o, a = some ⟨b, o, none⟩ ∧ b < w.heap.size ∧ ∀ i, i < m → w.cell? ⟨b, o + i, none⟩ = some (.int .i64 (ns.getD i 0)) := by
        rcases HI.out.2.2.2.2 with h | h
        · omega
        · exact h
      have hx0 := HNS.out (ns.getD k 0) (by
        have hl := HLn.out
        rw [List.getD_eq_getElem?_getD, List.getElem?_eq_getElem (by omega)]
        exact List.getElem_mem _)
      have hck := (HB.out.cell (p := ⟨b, _, none⟩) hbs).trans (hcell k hlt)
      have hsnoc : ns.take (k + 1) = ns.take k ++ [ns.getD k 0] := by
        have hl := HLn.out
        rw [List.take_succ_eq_append_getElem (by omega)]
        simp [show k < ns.length by omega]
      obtain ⟨x, hx⟩ : ∃ x, x = ns.getD k 0 := ⟨_, rfl⟩
      rw [← hx] at hx0 hck hsnoc
      obtain ⟨N, hN⟩ : ∃ N : Nat, x = (N : Int) := ⟨x.toNat, by omega⟩
      subst hN
      have hN1 : N ≤ 1000000 := by omega
      have HSn : Hid (nmL (ns.take (k + 1)) = nmL (ns.take k) ++ (32 :: dgs N)) := by unfold Hid; rw [hsnoc, nmL_snoc]; simp
      have hnl := nmL_len (ns.take k) (fun y hy => HNS.out y (List.mem_of_mem_take hy))
      have htk : (ns.take k).length ≤ k := by simp; omega
      obtain ⟨X, hX⟩ : ∃ X, X = Y ++ nmL (ns.take k) := ⟨_, rfl⟩
      have hXl : X.length ≤ 1800 := by rw [hX, List.length_append]; omega
      have HSX : Hid (Y ++ nmL (ns.take (k + 1)) = X ++ [32] ++ dgs N) := by unfold Hid; rw [HSn.out, hX]; simp
      rw [← hX] at HO
      have zr := HB.out.size
      have ba : Below wr.heap.size wr (wr.alloc (.cells #[.int .u8 32] 5)) := (Below.refl _ _).alloc (Nat.le_refl _) _
      have hoa := HO.out.below ba
      have hB1 := Bs.one wr 32 (by omega) (by omega)
      clear hx hcell hsnoc hX htk hnl HSn
      go_wp2_with (at_builtin; refine wplM_bs rfl _ _ rfl w.heap.size _ X.length X rfl hoa ⟨wr.heap.size, 0, none⟩ 1 1 [32] rfl hB1 (by omega) (by simp; omega) ?_)
      intro v2 y2 o2 g2
      have hb2 : Below w.heap.size w y2 := HB.out.trans ((ba.mono zr).trans (grown_below hoa (by simp; omega) g2))
      have o2' : ownM y2 w.heap.size v2 (X ++ [32]).length (X ++ [32]) := by rw [List.length_append]; exact o2
      have HB2 : Hid (Below w.heap.size w y2) := hb2
      have HO2 : Hid (ownM y2 w.heap.size v2 (X ++ [32]).length (X ++ [32])) := o2'
      have z2 := hb2.size
      have hl2 : (X ++ [32]).length ≤ 1801 := by rw [List.length_append]; simp; omega
      clear o2 o2' g2 hb2 hoa hB1 ba hck HO HB
      go_wp2_with fail
      refine (appInt w.heap.size v2 (X ++ [32]).length (X ++ [32]) N _ HO2.out (by omega) z2 hN1 (HT.out _ HB2.out)).mono ?_
      rintro e y3 ⟨v3, rfl, o3, hb3⟩
      have HO3 : Hid (ownM y3 w.heap.size v3 (Y ++ nmL (ns.take (k + 1))).length (Y ++ nmL (ns.take (k + 1)))) := by
        unfold Hid
        rw [HSX.out, List.length_append]
        exact o3
      have HB3 : Hid (Below w.heap.size w y3) := HB2.out.trans hb3
      clear o3 hb3 HO2 HB2
      go_wp2
      go_roundw
      case rel => exact ⟨k + 1, by omega, by go_num, HO3, HB3⟩
      case measure => simp [intOf]; omega
    · have hkn : k = m := by omega
      subst hkn
      have hXl : (Y ++ nmL (ns.take k)).length ≤ 1800 := by
        have := nmL_len (ns.take k) (fun y hy => HNS.out y (List.mem_of_mem_take hy))
        have htk : (ns.take k).length ≤ k := by simp; omega
        rw [List.length_append]; omega
      have htk : ns.take k = ns := List.take_of_length_le (by have := HLn.out; omega)
      rw [htk] at HO hXl
      obtain ⟨X, hX⟩ : ∃ X, X = Y ++ nmL ns := ⟨_, rfl⟩
      have HR : Hid (lnL (stB s) ns = X ++ [10]) := by unfold Hid; rw [HE.out, hX]
      rw [← hX] at HO hXl
      have zr := HB.out.size
      have ba : Below wr.heap.size wr (wr.alloc (.cells #[.int .u8 10] 5)) := (Below.refl _ _).alloc (Nat.le_refl _) _
      have hoa := HO.out.below ba
      have hB1 := Bs.one wr 10 (by omega) (by omega)
      clear htk hX
      go_wp2_with (at_builtin; refine wplM_bs rfl _ _ rfl w.heap.size _ X.length X rfl hoa ⟨wr.heap.size, 0, none⟩ 1 1 [10] rfl hB1 (by omega) (by simp; omega) ?_)
      intro v2 y2 o2 g2
      have hb2 : Below w.heap.size w y2 := HB.out.trans ((ba.mono zr).trans (grown_below hoa (by simp; omega) g2))
      have HO2 : Hid (ownM y2 w.heap.size v2 (X.length + 1) (X ++ [10])) := o2
      clear o2 g2 hoa hB1 ba
      go_wp2
      go_ret
      rw [HR.out, List.length_append]
      exact ⟨_, rfl, HO2.out, hb2⟩
end Go.Proofs.YtgfjbaigmkdbcaaDoor
namespace Go.Proofs.YtgfjbaigmkdbcaaDoor
open Go.RowKit
set_option maxRecDepth 100000
set_option maxHeartbeats 4000000
set_option linter.unusedVariables false

abbrev I6 (cs : List Int) : List Value := cs.map fun x => Value.int .i64 x
theorem isLit {W : World} {g m : Nat} {cs : List Int} (A : Arr W g 3 (I6 cs)) (hm : cs.length = m) (hb : nsOk cs) : Is W (some ⟨g, 0, none⟩) m m cs := by
  subst hm
  exact ⟨(fun h => by cases h), rfl, Nat.le_refl _, (fun x hx => by have := hb x hx; omega), .inr ⟨g, 0, rfl, A.lt, fun j hj => by
    have := A.cell j
    rw [List.getElem?_map, List.getElem?_eq_getElem hj] at this
    simpa [List.getD_eq_getElem?_getD, hj] using this⟩⟩
theorem isNil (W : World) : Is W none 0 0 [] := ⟨(fun _ => rfl), rfl, Nat.le_refl _, (by intro x hx; cases hx), .inl rfl⟩
theorem grow_below {w w' : World} (g : w.grownBy w' none) : Below w.heap.size w w' := ⟨g.os, g.tape, g.output, g.size, fun k hk => g.block k hk (by simp)⟩
theorem specLine (s : ByteArray) (a : Option Addr) (m c : Nat) (ns : List Int) (w : World) (hs : s.size ≤ 1000) (hI : Is w a m c ns) (hm : m ≤ 100) (hns : nsOk ns) :
    Calls Tryd.prog 28 #[.slice none 0 0, .string s, .slice a m c] w fun e w' => ∃ v, e = .returned v ∧ w'.ownsRow w.heap.size 5 1 v (lnL (stB s) ns).length (U8 (lnL (stB s) ns)) ∧ Below w.heap.size w w' := by
  refine Calls.mono (specL8words w.heap.size (.slice none 0 0) 0 [] s a m c ns w (World.ownsRow_nil _ _ _ _) (Nat.le_refl _) (by omega) (by omega) hI hm hns (by intro ad _ h; cases h)) ?_
  rintro e w' ⟨v, rfl, o, g⟩
  exact ⟨v, rfl, by simpa using o, grow_below g⟩
theorem litBelow (w : World) (o : Obj) : Below w.heap.size w (w.alloc o) := (Below.refl _ _).alloc (Nat.le_refl _) _
theorem specLit (s : ByteArray) (cs : List Int) (m : Nat) (w : World) (hs : s.size ≤ 1000) (hm : cs.length = m) (h100 : m ≤ 100) (hc : nsOk cs) :
    Calls Tryd.prog 28 #[.slice none 0 0, .string s, .slice (some ⟨w.heap.size, 0, none⟩) m m] (w.alloc (.cells (I6 cs).toArray 3)) fun e w' => ∃ v, e = .returned v ∧ w'.ownsRow w.heap.size 5 1 v (lnL (stB s) cs).length (U8 (lnL (stB s) cs)) ∧ Below w.heap.size w w' := by
  have b := litBelow w (.cells (I6 cs).toArray 3)
  refine Calls.mono (specLine s _ m m cs _ hs (isLit (Arr.new w (I6 cs) 3) hm hc) h100 hc) ?_
  rintro e w' ⟨v, rfl, o, hb⟩
  exact ⟨v, rfl, own_base o b.size, b.trans (hb.mono b.size)⟩
theorem specNil (s : ByteArray) (w : World) (hs : s.size ≤ 1000) :
    Calls Tryd.prog 28 #[.slice none 0 0, .string s, .slice none 0 0] w fun e w' => ∃ v, e = .returned v ∧ w'.ownsRow w.heap.size 5 1 v (lnL (stB s) []).length (U8 (lnL (stB s) [])) ∧ Below w.heap.size w w' :=
  specLine s none 0 0 [] w hs (isNil w) (by omega) (by intro x hx; cases hx)
theorem pow_below {w w' : World} (h : Pow w) (b : Below w.heap.size w w') : Pow w' := Lib.tabBelow_of_tabIs h _ b
theorem implLit (s : ByteArray) (cs : List Int) (m : Nat) (w : World) (ht : Pow w) (hs : s.size ≤ 1000) (hm : cs.length = m) (h100 : m ≤ 100) (hc : nsOk cs) :
    Calls Tryd.prog 32 #[.string s, .slice (some ⟨w.heap.size, 0, none⟩) m m] (w.alloc (.cells (I6 cs).toArray 3)) fun e w' => ∃ v, e = .returned v ∧ ownM w' w.heap.size v (lnL (stB s) cs).length (lnL (stB s) cs) ∧ Below w.heap.size w w' := by
  have b := litBelow w (.cells (I6 cs).toArray 3)
  refine Calls.mono (implLineOf s _ m m cs _ hs (isLit (Arr.new w (I6 cs) 3) hm hc) h100 hc (pow_below ht b)) ?_
  rintro e w' ⟨v, rfl, o, hb⟩
  exact ⟨v, rfl, o.lower b.size, b.trans (hb.mono b.size)⟩
theorem implNil (s : ByteArray) (w : World) (ht : Pow w) (hs : s.size ≤ 1000) :
    Calls Tryd.prog 32 #[.string s, .slice none 0 0] w fun e w' => ∃ v, e = .returned v ∧ ownM w' w.heap.size v (lnL (stB s) []).length (lnL (stB s) []) ∧ Below w.heap.size w w' :=
  implLineOf s none 0 0 [] w hs (isNil w) (by omega) (by intro x hx; cases hx) ht
end Go.Proofs.YtgfjbaigmkdbcaaDoor
namespace Go.Proofs.YtgfjbaigmkdbcaaDoor
open Go.RowKit
set_option maxRecDepth 100000
set_option maxHeartbeats 1000000

theorem by_dec0 (P : Prop) [Decidable P] : ∃ R : Bool, decide P = R ∧ Hid (P → R = true) ∧ Hid (¬ P → R = false) := ⟨_, rfl, decide_eq_true, decide_eq_false⟩
/-- A record that may be. -/
abbrev rcOk (k b n f : Int) : Prop := (k = 1 ∧ b = 0 ∧ (0 ≤ n ∧ n ≤ 1000) ∧ f = 0) ∨ (k = 2 ∧ (0 ≤ b ∧ b ≤ 1) ∧ (1 ≤ n ∧ n ≤ 1000) ∧ (0 ≤ f ∧ f ≤ 1000)) ∨
  (k = 3 ∧ (0 ≤ b ∧ b ≤ 1) ∧ (1 ≤ n ∧ n ≤ 1000) ∧ f = 0) ∨ (k = 5 ∧ b = 0 ∧ n = 0 ∧ (0 ≤ f ∧ f ≤ 1000)) ∨ ((k = 4 ∨ k = 6) ∧ b = 0 ∧ n = 0 ∧ f = 0)
/-- A state that may be. -/
abbrev btOk (b n f : Int) (t : Bool) (i o : Int) : Prop := (0 ≤ b ∧ b ≤ 1) ∧ (1 ≤ n ∧ n ≤ 1000) ∧ (0 ≤ f ∧ f ≤ 1000) ∧ (if t = true then (0 ≤ i ∧ i ≤ 3) ∧ (1 ≤ o ∧ o ≤ 1000) else i = 0 ∧ o = 0)
abbrev rcV (k b n f : Int) : Value := .agg #[.int .i64 k, .int .i64 b, .int .i64 n, .int .i64 f]
abbrev btV (b n f : Int) (t : Bool) (i o : Int) : Value := .agg #[.int .i64 b, .int .i64 n, .int .i64 f, .bool t, .int .i64 i, .int .i64 o]

theorem heap_mid (w : World) (a b c : Obj) : (((w.alloc a).alloc b).alloc c).heap[w.heap.size + 1]? = some b := by
  rw [heap_alloc_old _ _ (by simp)]
  have := heap_alloc_new (w.alloc a) b
  simpa using this
end Go.Proofs.YtgfjbaigmkdbcaaDoor
namespace Go.Proofs.YtgfjbaigmkdbcaaDoor
open Go.RowKit
set_option maxRecDepth 100000
set_option maxHeartbeats 1000000

theorem implIsIn (n a b : Int) (w : World) : Calls Tryd.prog 44 #[.int .i64 n, .int .i64 a, .int .i64 b] w fun e w' => e = .returned (.bool (decide (a ≤ n ∧ n ≤ b))) ∧ w' = w := by
  by_cases h1 : a ≤ n
  · by_cases h2 : n ≤ b
    · have e : decide (a ≤ n ∧ n ≤ b) = true := by simp [h1, h2]
      rw [e]
      go_enter Tryd.func44, Tryd.ntmps44
      go_wp2
      go_ret
      exact ⟨rfl, rfl⟩
    · have e : decide (a ≤ n ∧ n ≤ b) = false := by simp [h2]
      rw [e]
      go_enter Tryd.func44, Tryd.ntmps44
      go_wp2
      go_ret
      exact ⟨rfl, rfl⟩
  · have e : decide (a ≤ n ∧ n ≤ b) = false := by simp [h1]
    rw [e]
    go_enter Tryd.func44, Tryd.ntmps44
    go_wp2
    go_ret
    exact ⟨rfl, rfl⟩
end Go.Proofs.YtgfjbaigmkdbcaaDoor
namespace Go.Proofs.YtgfjbaigmkdbcaaDoor
open Go.RowKit
set_option maxRecDepth 100000
set_option maxHeartbeats 1000000

theorem spec8ver (n : Int) (w : World) : Calls Tryd.prog 43 #[.int .i64 n] w fun e w' => e = .returned (.bool (decide (0 ≤ n ∧ n ≤ 1000))) ∧ w' = w := by
  obtain ⟨R, hR, HT, HF⟩ := by_dec0 (0 ≤ n ∧ n ≤ 1000)
  rw [hR]
  clear hR
  by_cases h1 : 0 ≤ n
  · by_cases h2 : n ≤ 1000
    all_goals
      go_enter Tryd.func43, Tryd.ntmps43
      go_wp2
      go_ret
      exact ⟨by first | (rw [HF.out (by omega)]; rfl) | (rw [HT.out (by omega)]; rfl), rfl⟩
  · go_enter Tryd.func43, Tryd.ntmps43
    go_wp2
    go_ret
    exact ⟨by first | (rw [HF.out (by omega)]; rfl) | (rw [HT.out (by omega)]; rfl), rfl⟩
theorem implIsVer (n : Int) (w : World) : Calls Tryd.prog 46 #[.int .i64 n] w fun e w' => e = .returned (.bool (decide (0 ≤ n ∧ n ≤ 1000))) ∧ w' = w := by
  obtain ⟨R, hR⟩ : ∃ R, decide (0 ≤ n ∧ n ≤ 1000) = R := ⟨_, rfl⟩
  rw [hR]
  have HR : Hid _ := hR
  clear hR
  go_enter Tryd.func46, Tryd.ntmps46
  go_wp2_with fail
  refine (implIsIn n 0 1000 _).mono ?_
  rintro e w1 ⟨rfl, hw⟩
  rw [hw, HR.out]
  go_wp2
  go_ret
  exact ⟨rfl, rfl⟩
theorem implIsNum (n : Int) (w : World) : Calls Tryd.prog 54 #[.int .i64 n] w fun e w' => e = .returned (.bool (decide (1 ≤ n ∧ n ≤ 1000))) ∧ w' = w := by
  obtain ⟨R, hR⟩ : ∃ R, decide (1 ≤ n ∧ n ≤ 1000) = R := ⟨_, rfl⟩
  rw [hR]
  have HR : Hid _ := hR
  clear hR
  go_enter Tryd.func54, Tryd.ntmps54
  go_wp2_with fail
  refine (implIsIn n 1 1000 _).mono ?_
  rintro e w1 ⟨rfl, hw⟩
  rw [hw, HR.out]
  go_wp2
  go_ret
  exact ⟨rfl, rfl⟩
theorem implIsBank (n : Int) (w : World) : Calls Tryd.prog 45 #[.int .i64 n] w fun e w' => e = .returned (.bool (decide (0 ≤ n ∧ n ≤ 1))) ∧ w' = w := by
  obtain ⟨R, hR⟩ : ∃ R, decide (0 ≤ n ∧ n ≤ 1) = R := ⟨_, rfl⟩
  rw [hR]
  have HR : Hid _ := hR
  clear hR
  go_enter Tryd.func45, Tryd.ntmps45
  go_wp2_with fail
  refine (implIsIn n 0 1 _).mono ?_
  rintro e w1 ⟨rfl, hw⟩
  rw [hw, HR.out]
  go_wp2
  go_ret
  exact ⟨rfl, rfl⟩
end Go.Proofs.YtgfjbaigmkdbcaaDoor

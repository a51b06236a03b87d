/-
  What is proved here: a record's bytes tell the record; bytes with more ones than a record's are that record's or none's; plain data alone; what the draw of FnRecs and the laws' at answer; rows of records of four ints: stores of four cells, marks; no program is spoken of; what the laws' helpers on lists of records do: eqRecS, markRecS, heldRecS; what the program's recordsThatMayBe tells a loop that ranges over it.
-/
import Derived.Test.YtjceajgefpinpaaDoorJQ7
import Derived.Test.YtjceajgefpinpaaDoorJQ4
import Derived.Test.YtjceajgefpinpaaDoorJQ2
import Derived.Test.YtjceajgefpinpaaDoorJQ1
import Derived.RangeFuncNested
import Derived.RangeFuncBound
import Derived.RangeFuncCalls
import Derived.RangeFuncLeaves
import Derived.Shelf.Abstract
import Derived.Shelf.RegionOpen
import Derived.OwnWalkIn
import Derived.TacticsInMore
import Derived.LoopNIn
import Derived.LoopIn
import Derived.Test.YtjceajgefpinpaaDoorJQ5
namespace Go.Proofs.YtjceajgefpinpaaDoor
open Go.RowKit
set_option maxRecDepth 100000
set_option maxHeartbeats 2000000
set_option linter.unusedVariables false

theorem rcB_ok {k b n f : Int} (h : rcOk k b n f) : gOk (rcB k b n f) ∧ gK (rcB k b n f) = k ∧ gB (rcB k b n f) = b ∧ gN (rcB k b n f) = n ∧ gF (rcB k b n f) = f := by
  have hb : (0 ≤ k ∧ k ≤ 6) ∧ (0 ≤ b ∧ b ≤ 1) ∧ (0 ≤ n ∧ n ≤ 1000) ∧ (0 ≤ f ∧ f ≤ 1000) := by omega
  have e1 : gK (rcB k b n f) = k := by
    show (2 * k + b) % 256 / 2 = k
    omega
  have e2 : gB (rcB k b n f) = b := by
    show (2 * k + b) % 256 % 2 = b
    omega
  have e3 : gN (rcB k b n f) = n := by
    show n % 256 + 256 * ((n / 256 + 16 * (f / 256)) % 256 % 16) = n
    omega
  have e4 : gF (rcB k b n f) = f := by
    show f % 256 + 256 * ((n / 256 + 16 * (f / 256)) % 256 / 16) = f
    omega
  have ho : gOk (rcB k b n f) := by
    rw [gOk_iff (rcB_byte k b n f) (rcB_len k b n f), e1, e2, e3, e4]
    exact ⟨h, rfl⟩
  exact ⟨ho, e1, e2, e3, e4⟩
theorem goV_put {k b n f : Int} (h : rcOk k b n f) : goV (rcB k b n f) = .tuple #[rcV k b n f, .bool true] := by
  obtain ⟨h0, h1, h2, h3, h4⟩ := rcB_ok h
  rw [goV_yes h0, h1, h2, h3, h4]
/-- One byte and its opposite, with more ones: where they are opposites still, no one has come. -/
theorem or_opp (x m k : BitVec 8) (h : ((255#8 ^^^ x) ||| k) = 255#8 ^^^ (x ||| m)) : x ||| m = x ∧ ((255#8 ^^^ x) ||| k) = 255#8 ^^^ x := by
  have key : ∀ i, i < 8 → (x ||| m).getLsbD i = x.getLsbD i := by
    intro i hi
    have h1 := congrArg (fun v => BitVec.getLsbD v i) h
    have h255 : (255#8).getLsbD i = true := by
      have : i = 0 ∨ i = 1 ∨ i = 2 ∨ i = 3 ∨ i = 4 ∨ i = 5 ∨ i = 6 ∨ i = 7 := by omega
      rcases this with rfl | rfl | rfl | rfl | rfl | rfl | rfl | rfl <;> rfl
    simp only [BitVec.getLsbD_or, BitVec.getLsbD_xor, h255] at h1 ⊢
    cases hx : x.getLsbD i <;> cases hm : m.getLsbD i <;> cases hk : k.getLsbD i <;> simp_all
  have e : x ||| m = x := BitVec.eq_of_getLsbD_eq key
  exact ⟨e, by rw [h, e]⟩
theorem byte_back {x : Int} (h : 0 ≤ x ∧ x < 256) : ((BitVec.ofInt 8 x).toNat : Int) = x := by
  rw [BitVec.toNat_ofInt]
  simp
  omega
theorem or_pair (x m k : Int) (hx : 0 ≤ x ∧ x < 256) (h : bits .or .u8 (bits .xor .u8 255 x) k = bits .xor .u8 255 (bits .or .u8 x m)) : bits .or .u8 x m = x ∧ bits .or .u8 (bits .xor .u8 255 x) k = bits .xor .u8 255 x := by
  rw [b_or, b_xor, b_xor, b_or, u8_back, u8_back] at h
  have h' : ((255#8 ^^^ BitVec.ofInt 8 x) ||| BitVec.ofInt 8 k) = 255#8 ^^^ (BitVec.ofInt 8 x ||| BitVec.ofInt 8 m) := BitVec.eq_of_toNat_eq (by exact_mod_cast h)
  obtain ⟨h1, h2⟩ := or_opp _ _ _ h'
  constructor
  · rw [b_or, h1, byte_back hx]
  · rw [b_or, b_xor, u8_back]
    exact congrArg (fun v : BitVec 8 => (v.toNat : Int)) h2
/-- Bytes with more ones, as far as k. -/
def orT (b : List Int) (f : Nat → Int) (k : Nat) : List Int := (List.range 8).map fun j => if j < k then bits .or .u8 (b.getD j 0) (f j) else 0
theorem orT_len (b : List Int) (f : Nat → Int) (k : Nat) : (orT b f k).length = 8 := by simp [orT]
theorem orT_get (b : List Int) (f : Nat → Int) (k j : Nat) (hj : j < 8) : (orT b f k).getD j 0 = if j < k then bits .or .u8 (b.getD j 0) (f j) else 0 := by
  simp [orT, hj]
theorem orT_byte (b : List Int) (f : Nat → Int) (k : Nat) : ∀ x ∈ orT b f k, 0 ≤ x ∧ x < 256 := by
  intro x hx
  simp only [orT, List.mem_map] at hx
  obtain ⟨j, _, rfl⟩ := hx
  split
  · exact bits_byte _ _ _
  · omega
theorem orT_set (b : List Int) (f : Nat → Int) (k : Nat) (hk : k < 8) (v m : Int) (hv : v = bits .or .u8 (b.getD k 0) m) : (U8 (orT b f k)).set k (.int .u8 v) = U8 (orT b (fun j => if j = k then m else f j) (k + 1)) := by
  apply List.ext_getElem (by simp [orT])
  intro j h1 h2
  have hj : j < 8 := by simpa [orT] using h1
  simp only [U8, orT, List.getElem_set, List.getElem_map, List.getElem_range]
  by_cases e : k = j
  · subst e
    rw [if_pos rfl, if_pos (by omega), if_pos rfl, hv]
  · rw [if_neg e]
    by_cases hjk : j < k
    · rw [if_pos hjk, if_pos (by omega), if_neg (fun h => e h.symm)]
    · rw [if_neg hjk, if_neg (by omega)]
theorem orT_rec {k b n f : Int} (h : rcOk k b n f) (g : Nat → Int) (ho : gOk (orT (rcB k b n f) g 8)) : orT (rcB k b n f) g 8 = rcB k b n f := by
  have hb := rcB_byte k b n f
  have hl := rcB_len k b n f
  have h1 := (rcB_ok h).1.2.1
  have h2 := ho.2.1
  have key : ∀ i, i < 4 → (orT (rcB k b n f) g 8).getD i 0 = (rcB k b n f).getD i 0 ∧ (orT (rcB k b n f) g 8).getD (4 + i) 0 = (rcB k b n f).getD (4 + i) 0 := by
    intro i hi
    have e1 := h1 i hi
    have e2 := h2 i hi
    rw [orT_get _ _ _ _ (by omega), orT_get _ _ _ _ (by omega), if_pos (by omega), if_pos (by omega)] at e2
    rw [orT_get _ _ _ _ (by omega), orT_get _ _ _ _ (by omega), if_pos (by omega), if_pos (by omega), e1]
    rw [e1] at e2
    exact or_pair _ _ _ (byte_at hb (by rw [hl]; omega)) e2
  apply List.ext_getElem (by rw [orT_len, hl])
  intro j h3 h4
  have hj : j < 8 := by rw [hl] at h4; exact h4
  have hjj : (orT (rcB k b n f) g 8).getD j 0 = (rcB k b n f).getD j 0 := by
    by_cases h : j < 4
    · exact (key j h).1
    · have := (key (j - 4) (by omega)).2
      rw [show 4 + (j - 4) = j by omega] at this
      exact this
  simpa [List.getD_eq_getElem?_getD, h3, h4] using hjj
end Go.Proofs.YtjceajgefpinpaaDoor
namespace Go.Proofs.YtjceajgefpinpaaDoor
open Go.RowKit
set_option maxRecDepth 100000
set_option maxHeartbeats 4000000
set_option linter.unusedVariables false

theorem drawRecPut (a : Option Addr) (n c : Nat) (xs : List Int) (w : World) (h : Bs w a n c xs) (hm : n ≤ 9223372036854775807) :
    Calls Tryd.prog 5 #[.slice a n c] w fun e w' => ∃ r : Rc, e = .returned (rcV r.k r.b r.n r.f) ∧ Below w.heap.size w w' := by
  obtain ⟨V, hV⟩ : ∃ V, V = w.alloc (.cells #[.int .i64 0, .int .i64 0, .int .i64 0, .int .i64 0] 24) := ⟨_, rfl⟩
  have B0 : Below w.heap.size w V := by rw [hV]; exact (Below.refl _ _).alloc (Nat.le_refl _) _
  have AQ : Arr V w.heap.size 24 [.int .i64 0, .int .i64 0, .int .i64 0, .int .i64 0] := by rw [hV]; exact Arr.new _ _ _
  have zV : w.heap.size + 1 ≤ V.heap.size := by rw [hV]; simp
  have HBs : Hid (Bs V a n c xs) := h.below B0
  go_enter Tryd.func5, Tryd.ntmps5
  go_upto_region 1 with fail
  rw [← hV]
  clear hV h
  go_wp2_with fail
  refine (curNew a n c xs _ HBs.out hm).mono ?_
  rintro e w1 ⟨rfl, hc1, hd1, hs1, hb1⟩
  obtain ⟨p, hp⟩ : ∃ p, p = V.heap.size := ⟨_, rfl⟩
  rw [← hp] at hc1 hd1 ⊢
  have hpz : w.heap.size + 1 ≤ p := by rw [hp]; exact zV
  have hcode := hd1
  have B1 : Below w.heap.size w w1 := B0.trans (hb1.mono B0.size)
  have D : Dz0 w1 w1 p a n c := ⟨hc1, World.grownBy.refl _ _⟩
  have hp0 := cur_lt hc1
  replace AQ := AQ.kept hb1
  clear hc1 hd1 hs1 hb1 B0 hp zV HBs
  go_wp2_with fail
  refine (curBentRec p a n c xs _ D.cu (hcode.grown D.gr)).mono ?_
  rintro e w3 ⟨⟨rk, rb, rn, rf⟩, rfl, _, hc, hg⟩
  replace D := D.draw hc hg
  replace AQ := arr_p AQ hg (by omega)
  clear hc hg
  dsimp only
  have B3 : Below w.heap.size w w3 := B1.grown D.gr B1.size (fun k hk => by injection hk with hk; omega)
  have fQ := AQ.frozen
  have lQ := AQ.lt
  have q0 := AQ.cell 0
  have q1 := AQ.cell 1
  have q2 := AQ.cell 2
  have q3 := AQ.cell 3
  simp at q0 q1 q2 q3
  have HQ : Hid _ := set4z AQ (.int .i64 rk) (.int .i64 rb) (.int .i64 rn) (.int .i64 rf)
  have HB : Hid _ := bel_set4 B3 (Nat.le_refl w.heap.size) (.int .i64 rk) (.int .i64 rb) (.int .i64 rn) (.int .i64 rf)
  clear AQ D B1 B3
  go_wp2
  exact bodyPost_ret (results_cell_row rfl _ _ w.heap.size 24 _ (0, 0) _ rfl HQ.out Tryd.underlying24 rfl (by kernel_rfl)) rfl ⟨⟨rk, rb, rn, rf⟩, rfl, HB.out⟩
theorem atC (a : Option Addr) (n c : Nat) (xs : List Int) (k : Nat) (w : World) (h : Bs w a n c xs) (hn : n ≤ 9223372036854775807) (hk : k < 8) :
    Calls Tryd.prog 12 #[.slice a n c, .int .i64 (k : Int)] w fun e w' => ∃ x : Int, e = .returned (.int .i64 x) ∧ 0 ≤ x ∧ x < 256 ∧ w' = w := by
  by_cases h0 : n = 0
  · subst h0
    go_enter Tryd.func12, Tryd.ntmps12
    go_wp2
    go_ret
    exact ⟨0, rfl, by omega, by omega, rfl⟩
  obtain ⟨_, hl, hc, hby, hr⟩ := h
  rcases hr with hr | ⟨b, o, rfl, hlt, hcell⟩
  · omega
  have hx := byte_at hby (j := k % n) (by rw [hl]; exact Nat.mod_lt _ (by omega))
  have hcl := hcell (k % n) (Nat.mod_lt _ (by omega))
  obtain ⟨x, hxx⟩ : ∃ x, x = xs.getD (k % n) 0 := ⟨_, rfl⟩
  rw [← hxx] at hx hcl
  have e1 : Int.tmod (k : Int) (n : Int) = ((k % n : Nat) : Int) := (Int.ofNat_tmod k n).symm
  have e2 : ((k : Int) % (n : Int)) = ((k % n : Nat) : Int) := (Int.natCast_emod k n).symm
  obtain ⟨m, hm⟩ : ∃ m, m = k % n := ⟨_, rfl⟩
  have hmn : m < n := by rw [hm]; exact Nat.mod_lt _ (by omega)
  rw [← hm] at hcl e1 e2
  have hn0 : ¬ ((n : Int) = 0) := by omega
  have hn0' : ((n : Int) == 0) = false := by simp; omega
  have hw : IntKind.i64.wrap x = x := wr64 (by omega) (by omega)
  have hmn' : (m : Int) < (n : Int) := by omega
  clear hcell hxx hm hby
  go_enter Tryd.func12, Tryd.ntmps12
  go_wp2
  go_ret
  exact ⟨x, rfl, hx.1, hx.2, rfl⟩
end Go.Proofs.YtjceajgefpinpaaDoor
namespace Go.Proofs.YtjceajgefpinpaaDoor
open Go.RowKit
set_option maxRecDepth 100000
set_option linter.unusedVariables false

theorem bel_row4 {w W : World} {B g : Nat} (h : Below B w W) (hg : B ≤ g) (m : Nat) (a b c d : Value) : Below B w ((((W.setCell ⟨g, m, none⟩ a).setCell ⟨g, m + 1, none⟩ b).setCell ⟨g, m + 2, none⟩ c).setCell ⟨g, m + 3, none⟩ d) :=
  (((h.setCell hg _).setCell hg _).setCell hg _).setCell hg _
def mkR (k0 : Int) (n : Nat) : List Rc := (List.range n).map fun (i : Nat) => ⟨k0 + 4 * (i : Int), k0 + 4 * (i : Int) + 1, k0 + 4 * (i : Int) + 2, k0 + 4 * (i : Int) + 3⟩
theorem mkR_len (k0 : Int) (n : Nat) : (mkR k0 n).length = n := by simp [mkR]
theorem mkR_get (k0 : Int) (n i : Nat) (h : i < n) : rg (mkR k0 n) i = ⟨k0 + 4 * (i : Int), k0 + 4 * (i : Int) + 1, k0 + 4 * (i : Int) + 2, k0 + 4 * (i : Int) + 3⟩ := by simp [rg, mkR, h]
theorem grown_row4 {W : World} {g : Nat} (m : Nat) (a b c d : Value) : W.grownBy ((((W.setCell ⟨g, m, none⟩ a).setCell ⟨g, m + 1, none⟩ b).setCell ⟨g, m + 2, none⟩ c).setCell ⟨g, m + 3, none⟩ d) (some g) :=
  ⟨rfl, rfl, rfl, by simp, fun i hi hne => by
    have e : ∀ (X : World) (q : Nat) (v : Value), (X.setCell ⟨g, q, none⟩ v).heap[i]? = X.heap[i]? := fun X q v => heap_setCell_other X ⟨g, q, none⟩ i v (fun h => hne (by rw [h]))
    rw [e, e, e, e]⟩
theorem grown_tr {a b c : World} {r : Option Nat} (h : a.grownBy b r) (h' : b.grownBy c r) : a.grownBy c r :=
  ⟨h'.os.trans h.os, h'.tape.trans h.tape, h'.output.trans h.output, Nat.le_trans h.size h'.size, fun i hi hne => (h'.block i (Nat.lt_of_lt_of_le hi h.size) hne).trans (h.block i hi hne)⟩
end Go.Proofs.YtjceajgefpinpaaDoor
namespace Go.Proofs.YtjceajgefpinpaaDoor
open Go.RowKit
set_option maxRecDepth 100000
set_option maxHeartbeats 4000000
set_option linter.unusedVariables false

end Go.Proofs.YtjceajgefpinpaaDoor
namespace Go.Proofs.YtjceajgefpinpaaDoor
open Go.RowKit Go.Shelf
set_option maxRecDepth 100000
set_option maxHeartbeats 4000000
set_option linter.unusedVariables false
attribute [local go_sem] Oper.semAt_some

/-- The first m records, each with its place. -/
def sq (l : List Rc) (m : Nat) : List (Nat × Rc) := (List.range m).map fun i => (i, rg l i)
theorem sq_len (l : List Rc) (m : Nat) : (sq l m).length = m := by simp [sq]
theorem sq_succ (l : List Rc) (m : Nat) : sq l (m + 1) = sq l m ++ [(m, rg l m)] := by simp [sq, List.range_succ]
abbrev eP (x : Nat × Rc) : Array Value := #[.int .i64 (x.1 : Int), rcV x.2.k x.2.b x.2.n x.2.f]
theorem grown_bel {w w' : World} (h : Below w.heap.size w w') : w.grownBy w' none := ⟨h.os, h.tape, h.output, h.size, fun i hi _ => h.block i hi⟩

theorem implMay (a : Option Addr) (n c : Nat) (w : World) :
    Calls Tryd.prog 38 #[.slice a n c] w fun e w' => e = .returned (.func (.func 47) #[] #[.pointer (some ⟨w.heap.size, 0, none⟩)]) ∧
      Arr w' w.heap.size 49 [.slice a n c] ∧ w'.heap.size = w.heap.size + 1 ∧ Below w.heap.size w w' := by
  obtain ⟨W, hW⟩ : ∃ W, W = w.alloc (.cells #[.slice a n c] 49) := ⟨_, rfl⟩
  have h1 : Arr W w.heap.size 49 [.slice a n c] := by rw [hW]; exact Arr.new w [.slice a n c] _
  have h3 : W.heap.size = w.heap.size + 1 := by rw [hW]; simp
  have hB : Below w.heap.size w W := by rw [hW]; exact (Below.refl _ _).alloc (Nat.le_refl _) _
  go_enter Tryd.func38, Tryd.ntmps38
  go_wp2
  rw [← hW]
  go_ret
  exact ⟨rfl, h1, h3, hB⟩

theorem mayStops (m p : Nat) (a : Option Addr) (n c : Nat) (l : List Rc) (w0 w : World) (hx : Rs w0 a n c l) (hn : n ≤ 1048576) (hb0 : Below w0.heap.size w0 w) (hp : Arr w p 49 [.slice a n c]) :
    SeqStopsK Fence.wide m Tryd.prog 47 #[.pointer (some ⟨p, 0, none⟩)] eP (Below w0.heap.size)
      (fun ys => ∃ k, k ≤ n ∧ ys = sq l k ∧ (∀ i, i < k → (rg l i).Ok) ∧ (k = n ∨ ¬ (rg l k).Ok))
      (fun pre => ∃ k, k < n ∧ pre = sq l (k + 1) ∧ ∀ i, i < k + 1 → (rg l i).Ok) n w := by
  intro lp J Jx W hW hJ hJx hY h0
  have hpc : W.cell? ⟨p, 0, none⟩ = some (.slice a n c) := (hp.kept hW).cell 0
  have hwide : Fence.wide.depth.isSome = true → 1 ≤ m := fun h => by cases h
  have bW0 : Below w0.heap.size w0 W := hb0.trans (hW.mono hb0.size)
  refine callsIn_of_wp Tryd.func47 rfl trivial ?_ rfl
  simp only [Tryd.ntmps47, List.size_toArray, List.length_cons, List.length_nil, Nat.reduceAdd, Nat.reduceSub, Array.replicate_succ, Array.replicate_zero, List.push_toArray, List.append_toArray, List.nil_append, List.cons_append]
  gi_wp2
  gi_loopw [7] (fun i wr => ∃ k : Nat, k ≤ n ∧ i = .int .i64 k ∧ J (sq l k) wr ∧ Hid (∀ q, q < k → (rg l q).Ok) ∧ Below w0.heap.size w0 wr ∧ W.heap.size ≤ wr.heap.size) (fun i _ => n - (intOf i).toNat)
  case atStart => exact ⟨0, by omega, rfl, h0, (fun q hq => by omega), bW0, Nat.le_refl _⟩
  case round =>
    clear h0 hpc bW0
    obtain ⟨k, hk, rfl, hJk, HO, bk, sz⟩ := hrel
    by_cases hlt : k < n
    · obtain ⟨b, o, rfl, hbs, hcell⟩ := hx.opened (by omega)
      have hr := hcell k hlt
      obtain ⟨r, er⟩ : ∃ r, r = rg l k := ⟨_, rfl⟩
      rw [← er] at hr
      have ER : Hid _ := er
      clear er hcell
      obtain ⟨rk, rb, rn, rf⟩ := r
      obtain ⟨c0, c1, c2, c3⟩ := hr.below hbs bk
      dsimp only at c0 c1 c2 c3
      obtain ⟨W1, hW1⟩ : ∃ W1, W1 = wr.alloc (.cells #[.int .i64 rk, .int .i64 rb, .int .i64 rn, .int .i64 rf] 24) := ⟨_, rfl⟩
      have R : Arr W1 wr.heap.size 24 [.int .i64 rk, .int .i64 rb, .int .i64 rn, .int .i64 rf] := by rw [hW1]; exact Arr.new _ _ _
      have b1 : Below wr.heap.size wr W1 := by rw [hW1]; exact (Below.refl _ _).alloc (Nat.le_refl _) _
      have hltI : (k : Int) < (n : Int) := by omega
      gi_wp2_with fail
      rw [← hW1]
      clear hW1
      refine ⟨trivial, hwide, (callsIn_wide.2 (implRecOk rk rb rn rf W1)).mono ?_⟩
      rintro e w2 ⟨rfl, hb2⟩
      have b2 := b1.trans (hb2.mono b1.size)
      have R2 := R.kept hb2
      have hJ2 : J (sq l k) w2 := hJ _ wr w2 none hJk (grown_bel b2) (fun r e => by cases e)
      have bk2 := bk.trans (b2.mono bk.size)
      have sz2 : W.heap.size ≤ w2.heap.size := Nat.le_trans sz b2.size
      have d0 := R2.cell 0
      have d1 := R2.cell 1
      have d2 := R2.cell 2
      have d3 := R2.cell 3
      simp at d0 d1 d2 d3
      clear hJk bk sz b1 hb2 b2 R c0 c1 c2 c3
      by_cases hok : rcOk rk rb rn rf
      · rw [decide_eq_true hok]
        obtain ⟨fn, tmps, assign, body, hy, hR⟩ := hY (sq l k) (k, ⟨rk, rb, rn, rf⟩) w2 hJ2 (by rw [sq_len]; exact hlt)
        try dsimp only [eP] at hy
        have HOK : Hid (rcOk rk rb rn rf) := hok
        clear hok
        have HQ : Hid (sq l k ++ [(k, ⟨rk, rb, rn, rf⟩)] = sq l (k + 1)) := by unfold Hid; rw [sq_succ, ← ER.out]
        have HO2 : Hid (∀ q, q < k + 1 → (rg l q).Ok) := fun q hq => by
          by_cases e : q = k
          · subst e; rw [← ER.out]; exact HOK.out
          · exact HO.out q (by omega)
        clear HO HOK ER
        gi_wp2
        refine ⟨hwide, hR.mono ?_⟩
        rintro e w4 (⟨rfl, hJ4, hk4⟩ | ⟨rfl, hJ4⟩)
        · rw [HQ.out] at hJ4
          have bk4 := bk2.trans hk4
          have sz4 : W.heap.size ≤ w4.heap.size := Nat.le_trans sz2 hk4.size
          clear hJ2 bk2 sz2 d0 d1 d2 d3 hy hR R2
          gi_wp2
          go_roundw
          case rel => exact ⟨k + 1, by omega, by go_num, hJ4, HO2, bk4, sz4⟩
          case measure => simp [intOf]; omega
        · rw [HQ.out] at hJ4
          gi_wp2
          refine bodyPost_ret (results_none rfl _ _ _) rfl ?_
          exact ⟨⟨_, rfl⟩, .inr ⟨_, ⟨k, hlt, rfl, HO2.out⟩, hJ4⟩⟩
      · rw [decide_eq_false hok]
        have HN : Hid (¬ (rg l k).Ok) := by unfold Hid; rw [← ER.out]; exact hok
        clear hok ER
        gi_wp2
        first
          | (refine bodyPost_ret (results_none rfl _ _ _) rfl ?_
             exact ⟨⟨_, rfl⟩, .inl ⟨_, ⟨k, hk, rfl, HO.out, .inr HN.out⟩, hJ2⟩⟩)
          | (refine ⟨fun _ h => (by cases h), ?_⟩
             gi_wp2
             refine bodyPost_ret (results_none rfl _ _ _) rfl ?_
             exact ⟨⟨_, rfl⟩, .inl ⟨_, ⟨k, hk, rfl, HO.out, .inr HN.out⟩, hJ2⟩⟩)
    · have hkn : k = n := by omega
      subst hkn
      gi_wp2
      go_end0
      exact ⟨⟨_, rfl⟩, .inl ⟨_, ⟨k, hk, rfl, HO.out, .inl rfl⟩, hJk⟩⟩
end Go.Proofs.YtjceajgefpinpaaDoor

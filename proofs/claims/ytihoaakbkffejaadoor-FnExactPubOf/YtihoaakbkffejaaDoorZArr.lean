/-
  What is proved here: plain facts on a block of memory that holds just given cells (an array), and how it stays; no program is spoken of, no condition; what the program's table says of the specification's arrays of sixteen, and the prime's parts; no condition; plain facts on parts that are set one by one; no condition; what the program's table says of bytes and of ints, and plain facts on memory; no condition; the contract of the specification's l4read: sixteen parts out of 32 bytes; a law for the walk on 'append' where the first slice is a row of bytes that the call itself owns and the second is any slice of bytes; the two together hold at most 2^40 bytes; the contract of the specification's l4bytes: 32 bytes out of sixteen parts.
-/
import Derived.Test.YtihoaakbkffejaaDoorZFm
import Derived.Laws.Rows
import Derived.Laws.ResultCell
import Derived.Deep.QuietTactic
import Derived.BigQuiet
import Derived.Test.YtihoaakbkffejaaDoorProg
import Derived.BigRegion
import Derived.Laws.BitsLemmas
import Derived.Deep.MidRow
import Derived.Laws.AppendOwnNone
import Derived.Deep.RegionHeld3
import Derived.Deep.AppendLies
namespace Go.Proofs.YtihoaakbkffejaaDoor
open Go.RowKit

abbrev U32 (xs : List Int) : List Value := xs.map (Value.int .u32)

/-- Block g holds just these cells; none is frozen. -/
def Arr (w : World) (g : Nat) (t : TypeId) (cs : List Value) : Prop := w.heap[g]? = some (.cells cs.toArray t (0, 0))

section
variable {w w' : World} {g : Nat} {t : TypeId} {cs : List Value}

theorem Arr.lt (h : Arr w g t cs) : g < w.heap.size := (Array.getElem?_eq_some_iff.1 h).1
theorem Arr.cell (h : Arr w g t cs) (j : Nat) : w.cell? ⟨g, j, none⟩ = cs[j]? := by
  rw [cell_of_row w g j _ t _ h]; simp
theorem Arr.u32 {xs : List Int} (h : Arr w g t (U32 xs)) (j : Nat) (hj : j < xs.length) : w.cell? ⟨g, j, none⟩ = some (.int .u32 (xs.getD j 0)) := by
  rw [h.cell j]; simp [hj]
theorem Arr.i64 {xs : List Int} (h : Arr w g t (I64 xs)) (j : Nat) (hj : j < xs.length) : w.cell? ⟨g, j, none⟩ = some (.int .i64 (xs.getD j 0)) := by
  rw [h.cell j]; simp [hj]
theorem Arr.frozen (h : Arr w g t cs) (j : Nat) : w.frozen? ⟨g, j, none⟩ = false := frozen_of_row w g j _ t h
theorem Arr.set (h : Arr w g t cs) (j : Nat) (v : Value) : Arr (w.setCell ⟨g, j, none⟩ v) g t (cs.set j v) := by
  have := heap_setCell_same w g j _ t v h
  unfold Arr
  rw [this]; simp
theorem Arr.other (h : Arr w g t cs) (p : Addr) (v : Value) (hne : g ≠ p.block) : Arr (w.setCell p v) g t cs := by
  unfold Arr
  rw [heap_setCell_other w p g v hne]; exact h
theorem Arr.row (h : Arr w g t cs) (ds : List Value) : Arr (w.setRow g ds.toArray) g t ds := setRow_heap w g _ _ t _ h
theorem Arr.rowOther (h : Arr w g t cs) (k : Nat) (ds : Array Value) (hne : g ≠ k) : Arr (w.setRow k ds) g t cs := (setRow_other w k g ds hne).trans h
theorem Arr.below {B : Nat} (h : Arr w g t cs) (hb : Below B w w') (hB : g < B) : Arr w' g t cs := by
  unfold Arr; rw [hb.block g hB]; exact h
theorem Arr.kept (h : Arr w g t cs) (hb : Below w.heap.size w w') : Arr w' g t cs := h.below hb h.lt
theorem Arr.new (w : World) (cs : List Value) (t : TypeId) : Arr (w.alloc (.cells cs.toArray t)) w.heap.size t cs := heap_alloc_new w _
theorem Arr.alloc (h : Arr w g t cs) (o : Obj) : Arr (w.alloc o) g t cs := (heap_alloc_old w o h.lt).trans h
theorem Arr.drew (h : Arr w g t cs) : Arr w.drew g t cs := h
theorem Arr.drewN (h : Arr w g t cs) (q : Nat) : Arr (w.drewN q) g t cs := h
end

theorem Arr.set8 {w : World} {g : Nat} {t : TypeId} {a0 a1 a2 a3 a4 a5 a6 a7 : Int} (h : Arr w g t (U32 [a0, a1, a2, a3, a4, a5, a6, a7])) (l0 l1 l2 l3 l4 l5 l6 l7 : Int) :
    Arr ((((((((w.setCell ⟨g, 0, none⟩ (.int .u32 l0)).setCell ⟨g, 1, none⟩ (.int .u32 l1)).setCell ⟨g, 2, none⟩ (.int .u32 l2)).setCell ⟨g, 3, none⟩ (.int .u32 l3)).setCell ⟨g, 4, none⟩ (.int .u32 l4)).setCell ⟨g, 5, none⟩ (.int .u32 l5)).setCell ⟨g, 6, none⟩ (.int .u32 l6)).setCell ⟨g, 7, none⟩ (.int .u32 l7))
      g t (U32 [l0, l1, l2, l3, l4, l5, l6, l7]) :=
  (((((((h.set 0 (.int .u32 l0)).set 1 (.int .u32 l1)).set 2 (.int .u32 l2)).set 3 (.int .u32 l3)).set 4 (.int .u32 l4)).set 5 (.int .u32 l5)).set 6 (.int .u32 l6)).set 7 (.int .u32 l7)

theorem set8_below {w0 w : World} {B g : Nat} (h : Below B w0 w) (hg : B ≤ g) (l0 l1 l2 l3 l4 l5 l6 l7 : Value) :
    Below B w0 ((((((((w.setCell ⟨g, 0, none⟩ l0).setCell ⟨g, 1, none⟩ l1).setCell ⟨g, 2, none⟩ l2).setCell ⟨g, 3, none⟩ l3).setCell ⟨g, 4, none⟩ l4).setCell ⟨g, 5, none⟩ l5).setCell ⟨g, 6, none⟩ l6).setCell ⟨g, 7, none⟩ l7) :=
  (((((((h.setCell hg l0).setCell hg l1).setCell hg l2).setCell hg l3).setCell hg l4).setCell hg l5).setCell hg l6).setCell hg l7

theorem setRow_below {B : Nat} {w w' : World} (hb : Below B w w') (g : Nat) (cs : Array Value) (hg : B ≤ g) : Below B w (w'.setRow g cs) :=
  ⟨hb.os, hb.tape, hb.output, by simpa using hb.size, fun i hi => (setRow_other w' g i cs (by omega)).trans (hb.block i hi)⟩

theorem bel_dN {B : Nat} {w w' : World} (hb : Below B w w') (q : Nat) : Below B w (w'.drewN q) := ⟨hb.os, hb.tape, hb.output, hb.size, hb.block⟩

theorem results_row_tmp {P : Program} {fn : Func} {p u : Tmp} {ty : TypeId} {w : World} {g : Nat} {t : TypeId} {cs : List Value} {d : TypeDesc} {v : Value} {tmps : Array Value} (h : fn.results = #[.cell p ty, .tmp u])
    (hp : tmps.getD p undef = .pointer (some ⟨g, 0, none⟩)) (hv : tmps.getD u undef = v) (hg : Arr w g t cs) (hu : P.underlying ty = some d) (hd : (match d with | .struct _ | .array _ _ => true | _ => false) = true) (hi : (P.info? ty).map (·.size) = some cs.length) :
    (results fn tmps).run P w = .ok (.tuple #[.agg cs.toArray, v]) w := by
  have hl := run_loadVar_row (P := P) w g t ty cs.toArray (0, 0) d hg hu hd (by simpa using hi)
  rw [results_cell_tmp h, hp, hv]
  simp [asAddr, Result.andThen, hl]

theorem list8 {l : List Int} (h : l.length = 8) : ∃ a b c d e f g i, l = [a, b, c, d, e, f, g, i] := by
  match l, h with
  | [a, b, c, d, e, f, g, i], _ => exact ⟨a, b, c, d, e, f, g, i, rfl⟩

end Go.Proofs.YtihoaakbkffejaaDoor
namespace Go.Proofs.YtihoaakbkffejaaDoor
open Go.RowKit
set_option maxRecDepth 100000

theorem infoE : (Tryd.prog.info? 31).map (·.size) = some 16 := by kernel_rfl
theorem infoI : (Tryd.prog.info? 3).map (·.size) = some 1 := by kernel_rfl
/-- The prime's parts. -/
def PL : List Int := [65517, 65535, 65535, 65535, 65535, 65535, 65535, 65535, 65535, 65535, 65535, 65535, 65535, 65535, 65535, 32767]
theorem PL_len : PL.length = 16 := rfl
theorem PL_val : val PL = P25519 := by decide
theorem PL_lm : Lm PL := by unfold Lm PL; decide

abbrev Z16 : List Int := [0, 0, 0, 0, 0, 0, 0, 0, 0, 0, 0, 0, 0, 0, 0, 0]

end Go.Proofs.YtihoaakbkffejaaDoor
namespace Go.Proofs.YtihoaakbkffejaaDoor
open Go.RowKit
set_option maxRecDepth 100000

theorem set_app {f a : List Int} {k : Nat} (hf : f.length = k) (hk : k < a.length) (v : Int) : (I64 (f ++ a.drop k)).set k (.int .i64 v) = I64 ((f ++ [v]) ++ a.drop (k + 1)) := by
  subst hf
  have e : a.drop f.length = a.getD f.length 0 :: a.drop (f.length + 1) := by
    rw [List.drop_eq_getElem_cons hk]; simp [hk]
  rw [e]
  simp [List.set_append_right]
theorem get_app {f a : List Int} {k : Nat} (hf : f.length = k) : (f ++ a.drop k).getD k 0 = a.getD k 0 := by
  subst hf
  simp [List.getD, List.getElem?_append_right]
theorem len_app {f a : List Int} {k : Nat} (hf : f.length = k) (hk : k ≤ a.length) : (f ++ a.drop k).length = a.length := by
  simp [hf]; omega
theorem take_app (a : List Int) (k : Nat) (h : k < a.length) : a.take (k + 1) = a.take k ++ [a.getD k 0] := by
  rw [List.take_add_one, List.getD, List.getElem?_eq_getElem h]; rfl
theorem i64_low16 {x : Int} (h0 : 0 ≤ x) (h1 : x < 9223372036854775808) : bits .and .i64 x 65535 = x % 65536 :=
  bits_mask .i64 63 (by decide) (fun n a b => by rw [IntKind.wrap_i64]; omega) 16 (by decide) x h0 h1
theorem i64_low15 {x : Int} (h0 : 0 ≤ x) (h1 : x < 9223372036854775808) : bits .and .i64 x 32767 = x % 32768 :=
  bits_mask .i64 63 (by decide) (fun n a b => by rw [IntKind.wrap_i64]; omega) 15 (by decide) x h0 h1

theorem cpc_sub {a b : List Int} (ha : Lm a) (hb : Lm b) : ∀ {c : Int}, (c = 0 ∨ c = -1) → (cpc (List.zipWith (fun x y => x - y) a b) c = 0 ∨ cpc (List.zipWith (fun x y => x - y) a b) c = -1) := by
  induction a generalizing b with
  | nil => intro c hc; simpa [cpc] using hc
  | cons x a ih =>
    cases b with
    | nil => intro c hc; simpa [cpc] using hc
    | cons y b =>
      intro c hc
      have hx := ha x (by simp)
      have hy := hb y (by simp)
      simp only [List.zipWith_cons_cons, cpc]
      exact ih (fun z hz => ha z (by simp [hz])) (fun z hz => hb z (by simp [hz])) (by omega)
theorem gD_lm {a : List Int} (h : Lm a) (k : Nat) : 0 ≤ a.getD k 0 ∧ a.getD k 0 < 65536 := by
  by_cases hk : k < a.length
  · have : a.getD k 0 ∈ a := by rw [List.getD_eq_getElem?_getD, List.getElem?_eq_getElem hk]; exact List.getElem_mem _
    exact h _ this
  · rw [List.getD_eq_getElem?_getD, List.getElem?_eq_none (by omega)]; simp

theorem lm_of {xs : List Int} (hl : xs.length = 16) (h : ∀ j, j < 16 → 0 ≤ xs.getD j 0 ∧ xs.getD j 0 < 65536) : Lm xs := by
  intro x hx
  obtain ⟨j, hj⟩ := List.mem_iff_getElem?.1 hx
  have hjl := (List.getElem?_eq_some_iff.1 hj).1
  have := h j (by omega)
  rw [List.getD, hj] at this
  simpa using this

theorem arr_range {W : World} {g : Nat} {t : TypeId} {cs : List Value} (h : Arr W g t cs) : W.rangeAt g 0 cs := by
  intro j v hj
  rw [Nat.zero_add, h.cell j]
  exact hj
end Go.Proofs.YtihoaakbkffejaaDoor
namespace Go.Proofs.YtihoaakbkffejaaDoor
open Go.RowKit

theorem Tryd.info5 : (Tryd.prog.info? 5).map (fun i => (i.zero, i.size, i.bytes)) = some (some (.int .u8 0), 1, 1) := by kernel_rfl
theorem Tryd.info3 : (Tryd.prog.info? 3).map (fun i => (i.zero, i.size, i.bytes)) = some (some (.int .i64 0), 1, 8) := by kernel_rfl
theorem bel_drewN (w : World) (q : Nat) : Below w.heap.size w (w.drewN q) := ⟨rfl, rfl, rfl, Nat.le_refl _, fun _ _ => rfl⟩
theorem grown_trans {a b c : World} {row : Option Nat} (h : a.grownBy b row) (k : b.grownBy c row) : a.grownBy c row :=
  ⟨k.os.trans h.os, k.tape.trans h.tape, k.output.trans h.output, Nat.le_trans h.size k.size, fun i hi hne => (k.block i (Nat.lt_of_lt_of_le hi h.size) hne).trans (h.block i hi hne)⟩
end Go.Proofs.YtihoaakbkffejaaDoor
namespace Go.Proofs.YtihoaakbkffejaaDoor
open Go.RowKit
set_option maxRecDepth 100000

/-- The parts that the bytes make. -/
def rdL (bs : List Int) : List Int := (List.range 16).map fun i => bs.getD (2 * i) 0 + 256 * bs.getD (2 * i + 1) 0
theorem rdL_len (bs : List Int) : (rdL bs).length = 16 := by simp [rdL]
theorem rdL_get (bs : List Int) (k : Nat) (h : k < 16) : (rdL bs).getD k 0 = bs.getD (2 * k) 0 + 256 * bs.getD (2 * k + 1) 0 := by
  unfold rdL
  rw [List.getD, List.getElem?_map, List.getElem?_range h]
  rfl
theorem gD_u8 {bs : List Int} (h : ∀ x ∈ bs, 0 ≤ x ∧ x < 256) (j : Nat) : 0 ≤ bs.getD j 0 ∧ bs.getD j 0 < 256 := by
  by_cases hj : j < bs.length
  · rw [List.getD, List.getElem?_eq_getElem hj]
    exact h _ (List.getElem_mem hj)
  · rw [List.getD, List.getElem?_eq_none (by omega)]
    simp
theorem rdL_lm {bs : List Int} (h : ∀ x ∈ bs, 0 ≤ x ∧ x < 256) : Lm (rdL bs) := by
  refine lm_of (rdL_len bs) fun j hj => ?_
  rw [rdL_get bs j hj]
  have h1 := gD_u8 h (2 * j)
  have h2 := gD_u8 h (2 * j + 1)
  omega

set_option maxHeartbeats 2000000 in
theorem specRead16 (a : Option Addr) (c : Nat) (bs : List Int) (w : World) (hx : Bs w a 32 c bs) :
    Calls Tryd.prog 22 #[.slice a 32 c] w fun e w' => e = .returned (.agg (I64 (rdL bs)).toArray) ∧ Below w.heap.size w w' := by
  obtain ⟨_, hl, hc, hr, hx⟩ := hx
  rcases hx with hx | ⟨b, o, rfl, hbs, hcell⟩
  · omega
  have hRl := rdL_len bs
  have hRg := rdL_get bs
  have hr' := gD_u8 hr
  obtain ⟨R, hR⟩ : ∃ R, R = rdL bs := ⟨_, rfl⟩
  rw [← hR] at hRl hRg ⊢
  have HRG : Hid _ := hRg
  have HRR : Hid _ := hr'
  clear hR hRg hr hr'
  obtain ⟨W, hW⟩ : ∃ W, W = (w.alloc (.cells (I64 Z16).toArray 31)).alloc (.cells (I64 Z16).toArray 31) := ⟨_, rfl⟩
  have g1 : Arr W w.heap.size 31 (I64 Z16) := by rw [hW]; exact (Arr.new w (I64 Z16) _).alloc _
  have g2 : Arr W (w.heap.size + 1) 31 (I64 (R.take 0 ++ Z16.drop 0)) := by
    rw [hW]
    have := Arr.new (w.alloc (.cells (I64 Z16).toArray 31)) (I64 Z16) 31
    rw [World.size_alloc] at this
    exact this
  have gB : Below w.heap.size w W := by rw [hW]; exact ((Below.refl _ _).alloc (Nat.le_refl _) _).alloc (by simp) _
  go_enter Tryd.func22, Tryd.ntmps22
  go_wp2
  go_loopw [4] (fun i wr => ∃ k : Nat, k ≤ 16 ∧ i = .int .i64 k ∧ Arr wr w.heap.size 31 (I64 Z16) ∧ Arr wr (w.heap.size + 1) 31 (I64 (R.take k ++ Z16.drop k)) ∧ Below w.heap.size w wr) (fun i _ => 16 - (intOf i).toNat)
  case atStart => exact ⟨0, by omega, rfl, hW ▸ g1, hW ▸ g2, hW ▸ gB⟩
  case round =>
    clear g1 g2 gB hW
    obtain ⟨k, hk, rfl, g1, g2, gB⟩ := hrel
    have hfl : (R.take k).length = k := by simp; omega
    by_cases hlt : k < 16
    · obtain ⟨x, hx⟩ : ∃ x, x = bs.getD (2 * k) 0 := ⟨_, rfl⟩
      obtain ⟨y, hy⟩ : ∃ y, y = bs.getD (2 * k + 1) 0 := ⟨_, rfl⟩
      have hxb := HRR.out (2 * k)
      have hyb := HRR.out (2 * k + 1)
      rw [← hx] at hxb
      rw [← hy] at hyb
      have hck : wr.cell? ⟨b, o + 2 * k, none⟩ = some (.int .u8 x) := by rw [hx]; exact (gB.cell (p := ⟨b, o + 2 * k, none⟩) hbs).trans (hcell (2 * k) (by omega))
      have hcy : wr.cell? ⟨b, o + (2 * k + 1), none⟩ = some (.int .u8 y) := by rw [hy]; exact (gB.cell (p := ⟨b, o + (2 * k + 1), none⟩) hbs).trans (hcell (2 * k + 1) (by omega))
      obtain ⟨u, hu⟩ : ∃ u, wr.cell? ⟨w.heap.size + 1, k, none⟩ = some u := by
        rw [g2.cell k]
        exact ⟨_, List.getElem?_eq_getElem (by simp [hRl]; omega)⟩
      have hfz := g2.frozen k
      have hts := take_app R k (by omega)
      rw [HRG.out k hlt, ← hx, ← hy] at hts
      have g2' := g2.set k (.int .i64 (x + 256 * y))
      rw [set_app hfl (show k < Z16.length from hlt), ← hts] at g2'
      have g1' := g1.other ⟨w.heap.size + 1, k, none⟩ (.int .i64 (x + 256 * y)) (by simp)
      have gB' := gB.setCell (p := ⟨w.heap.size + 1, k, none⟩) (by simp) (.int .i64 (x + 256 * y))
      have hk16 : (k : Int) < 16 := by omega
      have hk0 : (0 : Int) ≤ (k : Int) := by omega
      have s1 : IntKind.i64.wrap (2 * (k : Int)) = 2 * (k : Int) := by rw [IntKind.wrap_i64]; omega
      have s2 : (2 * (k : Int)).toNat = 2 * k := by omega
      have s3 : 2 * (k : Int) < 32 := by omega
      have s4 : (0 : Int) ≤ 2 * (k : Int) := by omega
      have s5 : IntKind.i64.wrap (2 * (k : Int) + 1) = 2 * (k : Int) + 1 := by rw [IntKind.wrap_i64]; omega
      have s6 : (2 * (k : Int) + 1).toNat = 2 * k + 1 := by omega
      have s7 : 2 * (k : Int) + 1 < 32 := by omega
      have s8 : (0 : Int) ≤ 2 * (k : Int) + 1 := by omega
      have s9 : IntKind.i64.wrap x = x := by rw [IntKind.wrap_i64]; omega
      have s10 : IntKind.i64.wrap y = y := by rw [IntKind.wrap_i64]; omega
      have s11 : IntKind.i64.wrap (256 * y) = 256 * y := by rw [IntKind.wrap_i64]; omega
      have s12 : IntKind.i64.wrap (x + 256 * y) = x + 256 * y := by rw [IntKind.wrap_i64]; omega
      have H1 : Hid _ := g1'.drew
      have H2 : Hid _ := g2'.drew
      have HB : Hid _ := gB'.drew
      clear g1' g2' gB' g1 g2 gB hx hy hts hcell
      go_wp2
      go_region
      clear hck hcy hu hfz
      go_wp2
      go_roundw
      case rel => exact ⟨k + 1, by omega, by go_num, H1.out, H2.out, HB.out⟩
      case measure => simp [intOf]; omega
    · obtain rfl : k = 16 := by omega
      rw [List.take_of_length_le (by omega), show Z16.drop 16 = [] from rfl, List.append_nil] at g2
      have g1' := g1.row (I64 R)
      have gB' := setRow_below gB w.heap.size (I64 R).toArray (Nat.le_refl _)
      clear hfl hcell
      go_wp2_with (first
        | (refine wpList_load_row rfl 31 _ rfl (w.heap.size + 1) rfl 31 (I64 R).toArray (0, 0) _ g2 Tryd.underlying31 rfl (by simpa [hRl] using infoE) ?_)
        | (refine wpList_store_row rfl 31 _ _ rfl w.heap.size (I64 R).toArray rfl rfl 31 _ g1 (by simpa [hRl] using infoE) (by simp [hRl]) (by simp [Value.oneCell']) ?_))
      exact bodyPost_ret (results_cell_row rfl _ _ w.heap.size 31 (I64 R).toArray (0, 0) _ rfl g1' Tryd.underlying31 rfl (by simpa [hRl] using infoE)) rfl ⟨rfl, gB'⟩

end Go.Proofs.YtihoaakbkffejaaDoor
namespace Go.Proofs.YtihoaakbkffejaaDoor
open Go.RowKit

theorem wpl_append_bs {w : World} {ops : Array Oper} {rest : List Oper} {o : Oper} {a : Act} {Q : Exit → Act → World → Prop} (hgd : o.guard = none) (s x : Operand)
    (ho : o.op = .call { callee := .builtin .append, args := #[s, x], argTypes := #[22, 22] })
    (base : Nat) (v : Value) (n : Nat) (xs : List Int) (hs : a.eval s = v) (ao : Option Addr) (m c : Nat) (ys : List Int) (hx : a.eval x = .slice ao m c)
    (hown : w.ownsRow base 5 1 v n (U8 xs)) (hb : Bs w ao m c ys) (hlen : n + m ≤ 1099511627776) (hbase : base ≤ w.heap.size)
    (h : ∀ v' w', w'.ownsRow base 5 1 v' (n + m) (U8 (xs ++ ys)) → w.grownBy w' v.ownBlock → (v' = .slice none 0 0 ↔ v = .slice none 0 0 ∧ m = 0) → wpList Tryd.prog ops Q rest (a.put o.dst v') w') :
    wpList Tryd.prog ops Q (o :: rest) a w := by
  obtain ⟨i0, hi, hz0, hz1, hz2⟩ := info_parts Tryd.info5
  obtain ⟨hcap, hl, hc, _, hb⟩ := hb
  cases ao with
  | none =>
    have hc0 := hcap rfl
    subst hc0
    have hm : m = 0 := by omega
    subst hm
    have hy : ys = [] := List.eq_nil_of_length_eq_zero hl
    subst hy
    exact wpList_append_own_none hgd s x 22 ho base 5 i0 1 Tryd.underlying22 hi v n (U8 xs) hs hown hx
      (h v w (by simpa using hown) (World.grownBy.refl _ _) (by simp))
  | some ad =>
    refine wpList_append_own w hgd s x 22 ho base 5 i0 (.int .u8 0) 1 1 Tryd.underlying22 hi hz0 hz1 hz2 rfl (by decide) v n (U8 xs) hs hown ad m c (U8 ys) hx (by simp [hl]) ?_ (ints_oneCell _ _)
      (by unfold maxLen; omega) (by omega) hbase ?_
    · rcases hb with hb | ⟨b, off, ha, _, hcell⟩
      · intro j u hj
        have hy : ys = [] := List.eq_nil_of_length_eq_zero (by omega)
        subst hy
        simp at hj
      · obtain rfl := Option.some.inj ha
        intro j u hj
        have hjl : j < m := by
          have := (List.getElem?_eq_some_iff.1 hj).1
          simpa [hl] using this
        rw [Addr.add_lit, hcell j hjl]
        have e : (U8 ys)[j]? = some (.int .u8 (ys.getD j 0)) := by simp [show j < ys.length by omega]
        rw [e] at hj
        exact hj
    · intro v' w' h1 h2 h3
      exact h v' w' (by simpa using h1) h2 h3

theorem below_app {B n : Nat} {w wr w' : World} {v : Value} {xs : List Value} {o : Obj} (hb : Below B w wr) (hB : B ≤ wr.heap.size) (hown : wr.ownsRow B 5 1 v n xs) (hg : (wr.alloc o).grownBy w' v.ownBlock) : Below B w w' :=
  (hb.alloc hB o).grown hg (by simp; omega) (fun k hk => (hown.lt k hk).1)

theorem below_app0 {B n : Nat} {w wr w' : World} {v : Value} {xs : List Value} (hb : Below B w wr) (hB : B ≤ wr.heap.size) (hown : wr.ownsRow B 5 1 v n xs) (hg : wr.grownBy w' v.ownBlock) : Below B w w' :=
  hb.grown hg hB (fun k hk => (hown.lt k hk).1)

/-- One new cell, as a slice of one byte. -/
theorem Bs.one (w : World) (x : Int) (h0 : 0 ≤ x) (h1 : x < 256) : Bs (w.alloc (.cells #[.int .u8 x] 5)) (some ⟨w.heap.size, 0, none⟩) 1 1 [x] := by
  refine ⟨(fun h => by cases h), rfl, Nat.le_refl _, ?_, .inr ⟨w.heap.size, 0, rfl, by simp, ?_⟩⟩
  · intro y hy; simp at hy; omega
  · intro j hj
    have : j = 0 := by omega
    subst this
    rw [World.cell?_alloc_at _ _ _ _ rfl]; rfl

end Go.Proofs.YtihoaakbkffejaaDoor
namespace Go.Proofs.YtihoaakbkffejaaDoor
open Go.RowKit
set_option maxRecDepth 100000

/-- The bytes of parts: two of each, the low one first. -/
def btL (l : List Int) : List Int := l.flatMap (fun x => [x % 256, x / 256])
theorem btL_len (l : List Int) : (btL l).length = 2 * l.length := by
  induction l with
  | nil => rfl
  | cons x xs ih => simp only [btL, List.flatMap_cons, List.length_append, List.length_cons, List.length_nil] at ih ⊢; omega
theorem btL_snoc (l : List Int) (k : Nat) (h : k < l.length) : btL (l.take (k + 1)) = btL (l.take k) ++ [l.getD k 0 % 256, l.getD k 0 / 256] := by
  rw [take_app l k h]; simp [btL]
theorem btL_byte {l : List Int} (h : Lm l) : ∀ y ∈ btL l, 0 ≤ y ∧ y < 256 := by
  intro y hy
  simp only [btL, List.mem_flatMap, List.mem_cons, List.not_mem_nil, or_false] at hy
  obtain ⟨x, hx, hy⟩ := hy
  have := h x hx
  rcases hy with rfl | rfl <;> omega

set_option maxHeartbeats 2000000 in
theorem specBytes16 (l : List Int) (w : World) (hl : l.length = 16) (hm : Lm l) :
    Calls Tryd.prog 18 #[.agg (I64 l).toArray] w fun e w' => ∃ v, e = .returned v ∧ w'.ownsRow w.heap.size 5 1 v 32 (U8 (btL l)) ∧ Below w.heap.size w w' := by
  obtain ⟨i0, hi, hz0, hz1, hz2⟩ := info_parts Tryd.info5
  obtain ⟨A, hA⟩ : ∃ A, A = (I64 l).toArray := ⟨_, rfl⟩
  rw [← hA]
  obtain ⟨W, hW⟩ : ∃ W, W = w.alloc (.cells A 31) := ⟨_, rfl⟩
  have g0 : Arr W w.heap.size 31 (I64 l) := by rw [hW, hA]; exact Arr.new w (I64 l) _
  have gB : Below w.heap.size w W := by rw [hW]; exact (Below.refl _ _).alloc (Nat.le_refl _) _
  have gs : w.heap.size + 1 ≤ W.heap.size := by rw [hW]; simp
  clear hA
  go_enter Tryd.func18, Tryd.ntmps18
  go_wp2
  go_loopw [3, 4] (fun v i wr => ∃ k : Nat, k ≤ 16 ∧ i = .int .i64 k ∧ wr.ownsRow (w.heap.size + 1) 5 1 v (2 * k) (U8 (btL (l.take k))) ∧ Arr wr w.heap.size 31 (I64 l) ∧ Below w.heap.size w wr ∧ w.heap.size + 1 ≤ wr.heap.size) (fun _ i _ => 16 - (intOf i).toNat)
  case atStart => exact ⟨0, by omega, rfl, by simpa [btL] using World.ownsRow_nil _ _ _ _, hW ▸ g0, hW ▸ gB, by simp⟩
  case round =>
    clear g0 gB gs hW
    obtain ⟨k, hk, rfl, hown, g0, gB, gs⟩ := hrel
    by_cases hlt : k < 16
    · obtain ⟨x, hx⟩ : ∃ x, x = l.getD k 0 := ⟨_, rfl⟩
      have hck := g0.i64 k (by omega)
      rw [← hx] at hck
      have hxb := gD_lm hm k
      rw [← hx] at hxb
      obtain ⟨hx0, hx1⟩ := hxb
      have hnx := btL_snoc l k (by omega)
      rw [← hx] at hnx
      have HN : Hid _ := hnx
      clear hx hnx
      have s1 : IntKind.u8.wrap x = x % 256 := by rw [IntKind.wrap_u8]
      have s2 : IntKind.u8.wrap (x / 256) = x / 256 := by rw [IntKind.wrap_u8]; omega
      have hk16 : (k : Int) < 16 := by omega
      have hk0 : (0 : Int) ≤ (k : Int) := by omega
      go_wp2
      go_region_held3 (fun W => W.cell? ⟨w.heap.size, k, none⟩ = some (.int .i64 x)) (first | exact hS9 | go_keep)
        ((refine step_append_lies _ (by rfl) _ _ _ (by rfl) (w.heap.size + 1) 5 i0 _ 1 1 Tryd.underlying22 hi hz0 hz1 hz2 rfl (by omega) u3 (2 * k) (U8 (btL (l.take k))) (by rfl) ((hown.alloc _).drew)
            ⟨wr.heap.size, 0, none⟩ 2 2 (U8 [x % 256, x / 256]) (by rfl) (by rfl) (World.news_of_block (cs := #[.int .u8 (x % 256), .int .u8 (x / 256)]) (t := 5) (fr := (0, 0)) (heap_alloc_new wr _)) (by simp [Value.oneCell'])
            (by omega) (by unfold maxLen; omega) (by omega) (by simp; omega) (wr.heap.size + 1) (by simp) ?_; intro gg cap w1 hown1 hgrow hat hltg; have hbA : Below (w.heap.size + 1) wr w1 := (((Below.refl _ _).alloc (by omega) _).drew).grown hgrow (by simp; omega) (fun j hj => (hown.lt j hj).1); have hS9 : w1.cell? ⟨w.heap.size, k, none⟩ = some (.int .i64 x) := (hbA.cell (p := ⟨w.heap.size, k, none⟩) (by show w.heap.size < w.heap.size + 1; omega)).trans hck))
      all_goals
        have g0' := g0.below hbA (by omega)
        have gB' := gB.trans (hbA.mono (by omega))
        have gs' := Nat.le_trans gs hbA.size
        have HR : Hid (w1.ownsRow (w.heap.size + 1) 5 1 (.slice (some ⟨gg, 0, none⟩) (2 * k + 2) cap) (2 * (k + 1)) (U8 (btL (l.take (k + 1))))) := by
          unfold Hid
          rw [HN.out]
          have e2 : 2 * (k + 1) = 2 * k + 2 := by omega
          rw [e2]
          simpa using hown1
        clear hown1 hgrow hown hbA hat hltg g0 gB gs hck hS9
        go_wp2
        exact ⟨⟨k + 1, by omega, by go_num, HR.out, g0', gB', gs'⟩, by simp [intOf]; omega⟩
    · obtain rfl : k = 16 := by omega
      rw [List.take_of_length_le (by omega)] at hown
      have HO : Hid _ := own_base hown (show w.heap.size ≤ w.heap.size + 1 by omega)
      clear hown g0
      go_wp2
      go_ret
      exact ⟨_, rfl, HO.out, gB⟩

end Go.Proofs.YtihoaakbkffejaaDoor

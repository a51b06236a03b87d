/-
  What is proved here: an append of zeros onto a row of bytes that the call itself owns, and the contract of the specification's DrawSha512 (at most 427 bytes).
-/
import Derived.Test.YtgapfkiceolceaaDoorQa
import Derived.Lib.AppendZerosOnto
import Derived.Maps.AppendAt
namespace Go.Proofs.YtgapfkiceolceaaDoor
open Go.RowKit

theorem zeroCells_list (k : Nat) : (Builtin.zeroCells (Value.int .u8 0).cells k).toList = U8 (List.replicate k 0) := by
  rw [show U8 (List.replicate k 0) = List.replicate k (Value.int .u8 0) by simp, List.eq_replicate_iff]
  refine ⟨by simp [Builtin.zeroCells, Value.cells], fun b hb => ?_⟩
  simp only [Builtin.zeroCells, Value.cells, Array.toList_map, List.mem_map] at hb
  obtain ⟨i, _, rfl⟩ := hb
  simp [Nat.mod_one]

theorem run_zeros (w : World) (base : Nat) (v : Value) (n : Nat) (xs : List Int) (k : Nat) (ty : TypeId) (hown : w.ownsRow base 5 1 v n (U8 xs)) (hk : 0 < k) (hkm : n + k ≤ 1000000) (hbase : base ≤ w.heap.size) :
    ∃ v' w', (Builtin.append_ #[22, 3] ty #[v, .int .i64 (k : Int)]).run Tryd.prog w = .ok v' w' ∧ w'.ownsRow base 5 1 v' (n + k) (U8 (xs ++ List.replicate k 0)) ∧ w.grownBy w' v.ownBlock := by
  obtain ⟨i0, hi, hz0, hz1, hz2⟩ := info_parts Tryd.info5
  have hzl := zeroCells_list k
  have hzs : (Builtin.zeroCells (Value.int .u8 0).cells k).size = k := by simp [size_zeroCells, Value.cells]
  have hxl : xs.length = n := by have := hown.1; simpa using this
  have grown : ∀ (old : Nat) (row : Option Nat), old < n + k →
      (w.drew.alloc (.cells ((U8 xs).toArray ++ Builtin.zeroCells (Value.int .u8 0).cells k ++ Builtin.zeroCells (Value.int .u8 0).cells (grownCap w (n + k) old 5 - (n + k))) 5)).ownsRow base 5 1
        (.slice (some ⟨w.heap.size, 0, none⟩) (n + k) (grownCap w (n + k) old 5)) (n + k) (U8 (xs ++ List.replicate k 0)) ∧
      w.grownBy (w.drew.alloc (.cells ((U8 xs).toArray ++ Builtin.zeroCells (Value.int .u8 0).cells k ++ Builtin.zeroCells (Value.int .u8 0).cells (grownCap w (n + k) old 5 - (n + k))) 5)) row := by
    intro old row ho
    have hge := grownCap_ge w (n + k) old 5
    have hcm : grownCap w (n + k) old 5 ≤ maxLen := grownCap_le_maxLen w (n + k) old 5 (by unfold maxLen; omega)
    refine ⟨⟨by simp [hxl], .inr ⟨w.heap.size, _, _, rfl, hbase, heap_alloc_new w.drew _, hge, hcm, ?_, ?_⟩⟩, ⟨rfl, rfl, rfl, by simp, fun k hk _ => heap_alloc_old w.drew _ hk⟩⟩
    · simp only [Array.size_append, List.size_toArray, size_zeroCells, Value.cells, List.length_map, hxl]
      simp
      omega
    · simp only [Array.toList_append, hzl]
      rw [show U8 (xs ++ List.replicate k 0) = U8 xs ++ U8 (List.replicate k 0) by simp]
      exact List.take_left' (by simp [hxl])
  rcases hown.2 with ⟨rfl, rfl⟩ | ⟨g, cap, cur, rfl, hbg, hg, hnc, hcm, hcs, htake⟩
  · have hx : xs = [] := List.eq_nil_of_length_eq_zero hxl
    subst hx
    have hr := Lib.run_append_grow_zeros w 22 3 ty 5 i0 (.int .u8 0) .i64 .i64 Tryd.underlying22 Tryd.underlying3 hi hz0 none 0 0 [] (run_firstCells_none w.drew i0.size 0 0 0) k hk (by omega) (by omega) (by omega) (by rw [hz2]; omega)
      (by rw [hz2]; exact growslice_fits (by omega) (by omega))
    have hgr := grown 0 (Value.ownBlock (.slice none 0 0)) (by omega)
    exact ⟨_, _, hr, by simpa using hgr.1, by simpa using hgr.2⟩
  · by_cases hroom : n + k ≤ cap
    · have hst := run_storeCells_at Tryd.prog g n 5 (U8 (List.replicate k 0)) 0 cur w hg (by simp; omega) (ints_oneCell _ _)
      simp only [Nat.add_zero] at hst
      have hst' := hst
      simp at hst'
      have hw : IntKind.i64.wrap (k : Int) = k := by rw [IntKind.wrap_i64]; omega
      have hneg : ¬ ((k : Int) < 0) := by omega
      have h48 : ¬ (281474976710656 < (k : Int)) := by omega
      have hk0 : k ≠ 0 := by omega
      refine ⟨.slice (some ⟨g, 0, none⟩) (n + k) cap, w.setRow g (cur.toList.take n ++ U8 (List.replicate k 0) ++ cur.toList.drop (n + (U8 (List.replicate k 0)).length)).toArray, ?_, ?_, ?_⟩
      · simp [Builtin.append_, run_underlying Tryd.underlying22, run_underlying Tryd.underlying3, sizeOf, typeInfo, zeroValue, hi, hz0, hz1, hz2, asInt, asIntOf, hw, hneg, h48, hk0, hroom, Addr.add_lit, hzl, hst']
      · refine ⟨by simp [hxl], .inr ⟨g, cap, _, rfl, hbg, setRow_heap w g cur _ 5 _ hg, hroom, hcm, ?_, ?_⟩⟩
        · simp only [List.size_toArray, List.length_append, List.length_take, List.length_drop, Array.length_toList, List.length_map, List.length_replicate]
          omega
        · simp only [Nat.mul_one] at htake ⊢
          rw [htake, show U8 (xs ++ List.replicate k 0) = U8 xs ++ U8 (List.replicate k 0) by simp]
          exact List.take_left' (by simp [hxl])
      · exact ⟨rfl, rfl, rfl, by simp, fun k _ hk => setRow_other w g k _ (fun e => hk (by simp [Value.ownBlock, e]))⟩
    · have hold := run_firstCells_some (P := Tryd.prog) w.drew i0.size n ⟨g, 0, none⟩ n cap (U8 xs) (by rw [hz1]; simp [hxl]) (hown.cells (g := g) rfl)
      have hr := Lib.run_append_grow_zeros w 22 3 ty 5 i0 (.int .u8 0) .i64 .i64 Tryd.underlying22 Tryd.underlying3 hi hz0 (some ⟨g, 0, none⟩) n cap (U8 xs) hold k hk (by omega) (by omega) (by omega) (by rw [hz2]; omega)
        (by rw [hz2]; exact growslice_fits (by omega) (by omega))
      have hgr := grown cap (Value.ownBlock (.slice (some ⟨g, 0, none⟩) n cap)) (by omega)
      exact ⟨_, _, hr, hgr.1, hgr.2⟩

set_option maxHeartbeats 1000000 in
theorem drawSha512 (a : Option Addr) (n c : Nat) (xs : List Int) (w : World) (h : Bs w a n c xs) (hm : n ≤ 9223372036854775807) :
    Calls Tryd.prog 30 #[.slice a n c] w fun e w' => ∃ (v : Value) (l : List Int), e = .returned v ∧ l.length ≤ 500 ∧ (∀ x ∈ l, 0 ≤ x ∧ x < 256) ∧ w'.ownsRow w.heap.size 5 1 v l.length (U8 l) ∧ Below w.heap.size w w' := by
  go_enter Tryd.func30, Tryd.ntmps30
  go_wp2_with fail
  refine (curNew a n c xs _ h hm).mono ?_
  rintro e w1 ⟨rfl, hc1, hd1, hs1, hb1⟩
  go_wp2_with fail
  refine (curL2draw w.heap.size a n c xs _ hc1 hd1).mono ?_
  rintro e w2 ⟨v, l, rfl, hl, hlb, ho, hc2, hg2⟩
  have B2 : Below w.heap.size w w2 := hb1.grown hg2 hb1.size (fun k hk => by have := Option.some.inj hk; omega)
  have d2 := hd1.grown hg2
  have HLB : Hid _ := hlb
  clear hc1 hd1 hlb
  go_wp2_with fail
  refine (curOnce w.heap.size a n c xs 3 _ hc2 d2 (by omega)).mono ?_
  rintro e w3 ⟨q, rfl, c3, g3⟩
  have d3 := d2.grown g3
  have o3 := ho.kept g3 (by
    cases hv : v.ownBlock with
    | none => exact .inl rfl
    | some k => exact .inr (fun e => by have := (ho.lt k hv).1; simp at e; omega))
  have B3 : Below w.heap.size w w3 := B2.grown g3 B2.size (fun k hk => by have := Option.some.inj hk; omega)
  have s3 := g3.size
  have s2 := hg2.size
  clear ho hc2 d2 g3 hg2
  cases q with
  | false =>
    have R := own_base o3 (show w.heap.size ≤ w1.heap.size by omega)
    clear o3
    go_wp2
    go_ret
    exact ⟨_, l, rfl, by omega, HLB.out, R, B3⟩
  | true =>
    go_wp2_with fail
    have hgA := grown_alloc w3 (.cells (([111, 112, 127, 128, 1] : List Int).map (Value.int .i64)).toArray 3) none
    have hcA := cur_keep c3 hgA (by simp)
    have hdA := d3.grown (grown_alloc w3 (.cells (([111, 112, 127, 128, 1] : List Int).map (Value.int .i64)).toArray 3) (some w.heap.size))
    have hcell := cells_arr w3 [111, 112, 127, 128, 1] 3
    have oA := o3.alloc (.cells (([111, 112, 127, 128, 1] : List Int).map (Value.int .i64)).toArray 3)
    have BA := B3.alloc B3.size (.cells (([111, 112, 127, 128, 1] : List Int).map (Value.int .i64)).toArray 3)
    refine (curPick w.heap.size a n c xs w3.heap.size 5 [111, 112, 127, 128, 1] _ hcA hdA rfl (by omega) (by omega) (by omega) (fun j hj => hcell j hj)).mono ?_
    rintro e w4 ⟨x, rfl, hx, c4, g4⟩
    have o4 := oA.kept g4 (by
      cases hv : v.ownBlock with
      | none => exact .inl rfl
      | some k => exact .inr (fun e => by have := (o3.lt k hv).1; simp at e; omega))
    have B4 : Below w.heap.size w w4 := BA.grown g4 BA.size (fun k hk => by have := Option.some.inj hk; omega)
    have hb : 1 ≤ x ∧ x ≤ 128 := by
      simp only [List.mem_cons, List.not_mem_nil, or_false] at hx
      omega
    obtain ⟨hm0, hm2⟩ := hb
    have s4 := g4.size
    simp at s4
    clear hgA hcA hdA hcell hx g4 c4 oA BA o3 B3
    obtain ⟨K, rfl⟩ := Int.eq_ofNat_of_zero_le (show 0 ≤ x by omega)
    obtain ⟨v5, w5, hr5, o5, g5⟩ := run_zeros w4 w1.heap.size v l.length l K 22 o4 (by omega) (by omega) (by omega)
    go_wp2_with (at_builtin; refine Lib.wpList_append_run _ rfl _ _ _ _ rfl _ _ rfl rfl _ _ hr5 ?_)
    have B5 : Below w.heap.size w w5 := B4.grown g5 B4.size (fun k hk => by have := (o4.lt k hk).1; omega)
    have R : w5.ownsRow w.heap.size 5 1 v5 (l ++ List.replicate K 0).length (U8 (l ++ List.replicate K 0)) := by
      have e : (l ++ List.replicate K (0 : Int)).length = l.length + K := by simp
      rw [e]
      exact own_base o5 (by omega)
    have HR : Hid _ := R
    clear o5 o4 g5 hr5 R
    go_wp2
    go_ret
    refine ⟨_, l ++ List.replicate K 0, rfl, by simp; omega, ?_, HR.out, B5⟩
    intro y hy
    rcases List.mem_append.1 hy with h | h
    · exact HLB.out y h
    · have := (List.mem_replicate.1 h).2
      omega
end Go.Proofs.YtgapfkiceolceaaDoor

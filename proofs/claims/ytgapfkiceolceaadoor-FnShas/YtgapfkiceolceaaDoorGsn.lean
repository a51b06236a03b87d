/-
  What is proved here: what the program's iterator shaSchedule tells at words of 32 bits: the 64 words that the standard makes of a block of 64 bytes, each with its number, to whatever loop leaves the iterator's own row as it is.
-/
import Derived.Test.YtgapfkiceolceaaDoorQd
import Derived.Test.YtgapfkiceolceaaDoorQb
import Derived.Test.YtgapfkiceolceaaDoorQ7
import Derived.Test.YtgapfkiceolceaaDoorQe
import Derived.Test.YtgapfkiceolceaaDoorQ2
import Derived.Deep.AppendLies
namespace Go.Proofs.YtgapfkiceolceaaDoor
open Go.RowKit Go.Shelf
set_option maxRecDepth 100000

theorem sch_pren (xs : List Int) (k m : Nat) (hk : k ≤ m) (j : Nat) (hj : j < k) : (schedL xs m).getD j 0 = (schedL xs k).getD j 0 := by
  induction m with
  | zero => omega
  | succ m ih =>
    by_cases e : k = m + 1
    · rw [e]
    · rw [schSnocn]
      have hl := schedL_len xs m
      have h2 : (schedL xs m ++ [nextW xs (schedL xs m)]).getD j 0 = (schedL xs m).getD j 0 := by
        simp [List.getD, List.getElem?_append_left, hl, show j < m by omega]
      rw [h2]
      exact ih (by omega)
theorem nextHin (xs : List Int) (k : Nat) (hk : 16 ≤ k) : nextW xs (schedL xs k) = (sS1 ((schedL xs k).getD (k - 16 + 14) 0) + (schedL xs k).getD (k - 16 + 9) 0 + sS0 ((schedL xs k).getD (k - 16 + 1) 0) + (schedL xs k).getD (k - 16) 0) % 4294967296 := by
  unfold nextW
  rw [if_neg (by rw [schedL_len]; omega), schedL_len, show k - 16 + 14 = k - 2 by omega, show k - 16 + 9 = k - 7 by omega, show k - 16 + 1 = k - 15 by omega]
  congr 1
  omega

/-- The row of words and the rules, through whatever keeps what is there. -/
structure Wsn (W wr : World) (q g m cap rb : Nat) (l : List Int) : Prop where
  own : wr.ownsRow W.heap.size 63 1 (.slice (some ⟨g, 0, none⟩) m cap) m (U32 l)
  ru : Arr wr q 74 [.int .i64 2, .int .i64 13, .int .i64 22, .int .i64 6, .int .i64 11, .int .i64 25, .int .i64 7, .int .i64 18, .int .i64 3, .int .i64 17, .int .i64 19, .int .i64 10, .slice (some ⟨rb, 0, none⟩) 64 64]
theorem Wsn.go {W A B : World} {q g m cap rb : Nat} {l : List Int} (h : Wsn W A q g m cap rb l) (hb : Below A.heap.size A B) : Wsn W B q g m cap rb l :=
  ⟨own_same h.own (hb.block g (own_cap h.own).2.2.2), h.ru.kept hb⟩
theorem Wsn.turns {W A : World} {q g m cap rb : Nat} {l : List Int} (h : Wsn W A q g m cap rb l) : A.cell? ⟨q, 0, none⟩ = some (.int .i64 2) ∧ A.cell? ⟨q, 1, none⟩ = some (.int .i64 13) ∧ A.cell? ⟨q, 2, none⟩ = some (.int .i64 22) ∧ A.cell? ⟨q, 3, none⟩ = some (.int .i64 6) ∧ A.cell? ⟨q, 4, none⟩ = some (.int .i64 11) ∧ A.cell? ⟨q, 5, none⟩ = some (.int .i64 25) ∧ A.cell? ⟨q, 6, none⟩ = some (.int .i64 7) ∧ A.cell? ⟨q, 7, none⟩ = some (.int .i64 18) ∧ A.cell? ⟨q, 8, none⟩ = some (.int .i64 3) ∧ A.cell? ⟨q, 9, none⟩ = some (.int .i64 17) ∧ A.cell? ⟨q, 10, none⟩ = some (.int .i64 19) ∧ A.cell? ⟨q, 11, none⟩ = some (.int .i64 10) :=
  ⟨h.ru.cell 0, h.ru.cell 1, h.ru.cell 2, h.ru.cell 3, h.ru.cell 4, h.ru.cell 5, h.ru.cell 6, h.ru.cell 7, h.ru.cell 8, h.ru.cell 9, h.ru.cell 10, h.ru.cell 11⟩
theorem Wsn.same {W A B : World} {q g m cap rb p : Nat} {l : List Int} (h : Wsn W A q g m cap rb l) (hs : Same (fun b => b = g ∨ b = p ∨ b = q) A B) : Wsn W B q g m cap rb l :=
  ⟨own_same h.own (hs.2 g (.inl rfl) (own_cap h.own).2.2.2), (hs.2 q (.inr (.inr rfl)) h.ru.lt).trans h.ru⟩
theorem Wsn.app {W A B : World} {o : Obj} {q g m cap rb gg cap' : Nat} {xs : List Int} {z : Int} (h : Wsn W A q g m cap rb (schedL xs m)) (hqg : q ≠ g)
    (hown : B.ownsRow W.heap.size 63 1 (.slice (some ⟨gg, 0, none⟩) (m + 1) cap') (m + 1) (U32 (schedL xs m) ++ U32 [z])) (hg : (A.alloc o).grownBy B (some g)) (hs : schedL xs (m + 1) = schedL xs m ++ [z]) : Wsn W B q gg (m + 1) cap' rb (schedL xs (m + 1)) := by
  refine ⟨by rw [hs]; simpa using hown, ?_⟩
  have h1 := h.ru.alloc o
  exact (hg.block q h1.lt (fun e => hqg (by cases e; rfl))).trans h1
set_option maxHeartbeats 2000000 in
theorem schedTellsn (n p q rb : Nat) (a : Option Addr) (c : Nat) (xs : List Int) (W : World) (hp : Arr W p 22 [.slice a 64 c]) (hq : Arr W q 74 [.int .i64 2, .int .i64 13, .int .i64 22, .int .i64 6, .int .i64 11, .int .i64 25, .int .i64 7, .int .i64 18, .int .i64 3, .int .i64 17, .int .i64 19, .int .i64 10, .slice (some ⟨rb, 0, none⟩) 64 64]) (hx : Bs W a 64 c xs) :
    Tells n Tryd.prog 105 #[.pointer (some ⟨p, 0, none⟩), .pointer (some ⟨q, 0, none⟩)] (fun k => #[.int .i64 (k : Int), .int .u32 ((schedL xs 64).getD k 0)]) 64 (fun b => b = p ∨ b = q) W := by
  intro l J hJ hY h0
  obtain ⟨i0, hi, hz0, hz1, hz2⟩ := info_parts infoUn
  have hpc : W.cell? ⟨p, 0, none⟩ = some (.slice a 64 c) := hp.cell 0
  refine callsIn_of_wp Tryd.func105 rfl trivial ?_ rfl
  simp only [Tryd.ntmps105, List.size_toArray, List.length_cons, List.length_nil, Nat.reduceAdd, Nat.reduceSub, Array.replicate_succ, Array.replicate_zero, List.push_toArray, List.append_toArray, List.nil_append, List.cons_append]
  have hwide : Fence.wide.depth.isSome = true → 1 ≤ n := fun h => by cases h
  gi_wp2
  refine ⟨trivial, hwide, (callsIn_wide.2 (blockWordsn a c xs _ hx)).mono ?_⟩
  rintro e w1 ⟨g, rfl, hA1, hg1, hb1⟩
  have hq1 := hq.kept hb1
  have hqc1 : w1.cell? ⟨q, 12, none⟩ = some (.slice (some ⟨rb, 0, none⟩) 64 64) := hq1.cell 12
  have hown1 : w1.ownsRow W.heap.size 63 1 (.slice (some ⟨g, 0, none⟩) 16 16) 16 (U32 (schedL xs 16)) := own_of_arr hA1 (by simp [schedL_len]) hg1 (by unfold maxLen; omega)
  have hJ1 : J 0 g w1 := hJ 0 W.heap.size g W w1 (h0 _ (Nat.le_refl _)) (grown_below hb1 _) (.inr hg1)
  have WS0 : Wsn W w1 q g 16 16 rb (schedL xs 16) := ⟨hown1, hq1⟩
  have hqW := hq.lt
  have hsz1 := hb1.size
  clear hA1 hg1 hb1 hown1 hq1 h0 hp hq hx hpc
  gi_wp2
  gi_loopw [4, 11] (fun v i wr => ∃ k g m cap : Nat, k ≤ 64 ∧ m = max 16 k ∧ v = .slice (some ⟨g, 0, none⟩) m cap ∧ i = .int .i64 k ∧ Wsn W wr q g m cap rb (schedL xs m) ∧ J k g wr ∧ W.heap.size ≤ wr.heap.size) (fun _ i _ => 64 - (intOf i).toNat)
  case atStart => exact ⟨0, g, 16, 16, by omega, by omega, rfl, rfl, WS0, hJ1, hsz1⟩
  case round =>
    clear WS0 hJ1 hqc1 hsz1
    obtain ⟨k, g, m, cap, hk, hm, rfl, rfl, WS, hJk, hsz⟩ := hrel
    by_cases hlt : k < 64
    · have hkR : (k : Int) < 64 := by omega
      by_cases h16 : 16 ≤ k
      · have h16' : (16 : Int) ≤ (k : Int) := by omega
        obtain rfl : m = k := by omega
        clear hm
        have WSd : Wsn W wr.drew q g m cap rb (schedL xs m) := WS.go (Below.refl _ _).drew
        have hJd : J m g wr.drew := hJ m g g wr _ hJk (grown_below (Below.refl _ _).drew _) (.inl rfl)
        obtain ⟨hcap1, hcap2, hg1, hg2⟩ := own_cap WSd.own
        obtain ⟨y0, e0⟩ : ∃ y, y = (schedL xs m).getD (m - 16) 0 := ⟨_, rfl⟩
        obtain ⟨y1, e1⟩ : ∃ y, y = (schedL xs m).getD (m - 16 + 1) 0 := ⟨_, rfl⟩
        obtain ⟨y9, e9⟩ : ∃ y, y = (schedL xs m).getD (m - 16 + 9) 0 := ⟨_, rfl⟩
        obtain ⟨y14, e14⟩ : ∃ y, y = (schedL xs m).getD (m - 16 + 14) 0 := ⟨_, rfl⟩
        have hnx := nextHin xs m h16
        rw [← e0, ← e1, ← e9, ← e14] at hnx
        have c0 : wr.drew.cell? ⟨g, m - 16, none⟩ = some (.int .u32 y0) := by rw [e0]; exact own_cell WSd.own _ (by rw [schedL_len]; omega)
        have c1 : wr.drew.cell? ⟨g, m - 16 + 1, none⟩ = some (.int .u32 y1) := by rw [e1]; exact own_cell WSd.own _ (by rw [schedL_len]; omega)
        have c9 : wr.drew.cell? ⟨g, m - 16 + 9, none⟩ = some (.int .u32 y9) := by rw [e9]; exact own_cell WSd.own _ (by rw [schedL_len]; omega)
        have c14 : wr.drew.cell? ⟨g, m - 16 + 14, none⟩ = some (.int .u32 y14) := by rw [e14]; exact own_cell WSd.own _ (by rw [schedL_len]; omega)
        obtain ⟨z, hz⟩ : ∃ z, z = (sS1 y14 + y9 + sS0 y1 + y0) % 4294967296 := ⟨_, rfl⟩
        rw [← hz] at hnx
        have HNC : Hid (Calls Tryd.prog 107 #[.slice (some ⟨g, m - 16, none⟩) 16 (cap - (m - 16)), .agg #[.int .i64 2, .int .i64 13, .int .i64 22, .int .i64 6, .int .i64 11, .int .i64 25, .int .i64 7, .int .i64 18, .int .i64 3, .int .i64 17, .int .i64 19, .int .i64 10]] wr.drew fun e w' => e = .returned (.int .u32 z) ∧ Below wr.drew.heap.size wr.drew w') := by
          unfold Hid
          rw [hz]
          exact nextCn g (m - 16) 16 (cap - (m - 16)) y0 y1 y9 y14 wr.drew (by omega) c0 c1 c9 c14
        have hsn := schSnocn xs m
        rw [hnx] at hsn
        have HSN : Hid (schedL xs (m + 1) = schedL xs m ++ [z]) := hsn
        have hqg : q ≠ g := by omega
        clear e0 e1 e9 e14 hnx c0 c1 c9 c14 hz hsn hJk WS
        have s1 : IntKind.i64.wrap ((m : Int) - 16) = (m : Int) - 16 := by rw [IntKind.wrap_i64]; omega
        have s2 : ((m : Int) - 16).toNat = m - 16 := by omega
        have s3 : (m : Int) - 16 ≤ (m : Int) := by omega
        have s4 : (m : Int) ≤ (cap : Int) := by omega
        have s5 : m - (m - 16) = 16 := by omega
        have s8 : ¬ (cap = m - 16) := by omega
        gi_wp2
        refine wpIn_wide.2 ?_
        go_region_held3 (fun Z => Z.cell? ⟨q, 0, none⟩ = some (.int .i64 2) ∧ Z.cell? ⟨q, 1, none⟩ = some (.int .i64 13) ∧ Z.cell? ⟨q, 2, none⟩ = some (.int .i64 22) ∧ Z.cell? ⟨q, 3, none⟩ = some (.int .i64 6) ∧ Z.cell? ⟨q, 4, none⟩ = some (.int .i64 11) ∧ Z.cell? ⟨q, 5, none⟩ = some (.int .i64 25) ∧ Z.cell? ⟨q, 6, none⟩ = some (.int .i64 7) ∧ Z.cell? ⟨q, 7, none⟩ = some (.int .i64 18) ∧ Z.cell? ⟨q, 8, none⟩ = some (.int .i64 3) ∧ Z.cell? ⟨q, 9, none⟩ = some (.int .i64 17) ∧ Z.cell? ⟨q, 10, none⟩ = some (.int .i64 19) ∧ Z.cell? ⟨q, 11, none⟩ = some (.int .i64 10))
          (first | exact WS3.turns | exact WSd.turns | exact (WSd.go ((Below.refl _ _).alloc (Nat.le_refl _) _)).turns)
          ((first
            | (refine step_append_lies _ (by rfl) _ _ _ (by rfl) W.heap.size 63 i0 _ 1 4 Tryd.underlying72 hi hz0 hz1 hz2 rfl (by omega) (.slice (some ⟨g, 0, none⟩) m cap) m (U32 (schedL xs m)) (by rfl) (WSd.own.alloc _)
                ⟨w2.heap.size, 0, none⟩ 1 1 (U32 [z]) (by rfl) (by rfl) (World.news_of_block (cs := #[.int .u32 z]) (t := 63) (fr := (0, 0)) (heap_alloc_new w2 _)) (by simp [Value.oneCell'])
                (by omega) (by unfold maxLen; omega) (by omega) (by simp; omega) (w2.heap.size + 1) (by simp) ?_; intro gg cap' w3 hown3 hgrow hat hlt3; have WS3 := Wsn.app WSd hqg hown3 hgrow HSN.out; have hJ3 := app_J hJ hJd hgrow hat; have hsz3 := Nat.le_trans (Nat.le_trans hsz (Nat.le_succ _)) (by simpa using hgrow.size))
            | (go_at_call 107; refine HNC.out.mono ?_; rintro e w2 ⟨rfl, hb2⟩; replace WSd := WSd.go hb2; replace hJd := hJ m g g _ w2 hJd (grown_below hb2 _) (.inl rfl); replace hsz := Nat.le_trans hsz hb2.size)))
        clear hown3 hgrow hat HSN HNC hb2 hJd WSd s1 s2 s3 s4 s5 s8
        rename_i hHeld0
        clear hHeld0
        obtain ⟨x, hx⟩ : ∃ x, x = (schedL xs 64).getD m 0 := ⟨_, rfl⟩
        have hxc : w3.cell? ⟨gg, m, none⟩ = some (.int .u32 x) := by
          rw [own_cell WS3.own m (by rw [schedL_len]; omega), hx, sch_pren xs (m + 1) 64 (by omega) m (by omega)]
        obtain ⟨fn, tmps, assign, body, hy, hR⟩ := hY m gg w3 hlt (own_cap WS3.own).2.2.2 hJ3
        rw [← hx] at hy
        clear hx hY
        have hkm : (m : Int) < ((m + 1 : Nat) : Int) := by omega
        gi_wp2
        refine ⟨hwide, hR.mono ?_⟩
        rintro e w4 ⟨rfl, hJ4, hs4⟩
        have WS4 : Wsn W w4 q gg (m + 1) cap' rb (schedL xs (m + 1)) := WS3.same hs4
        have hsz4 := Nat.le_trans hsz3 hs4.1
        clear WS3 hs4 hxc hy hR
        gi_wp2
        go_roundw
        case rel => exact ⟨m + 1, gg, m + 1, cap', by omega, by omega, rfl, by go_num, WS4, hJ4, hsz4⟩
        case measure => simp [intOf]; omega
      · obtain rfl : m = 16 := by omega
        clear hm
        have h16' : (k : Int) < 16 := by omega
        obtain ⟨x, hx⟩ : ∃ x, x = (schedL xs 64).getD k 0 := ⟨_, rfl⟩
        have hxc : wr.cell? ⟨g, k, none⟩ = some (.int .u32 x) := by
          rw [own_cell WS.own k (by rw [schedL_len]; omega), hx, sch_pren xs (16) 64 (by omega) k (by omega)]
        obtain ⟨fn, tmps, assign, body, hy, hR⟩ := hY k g wr hlt (own_cap WS.own).2.2.2 hJk
        rw [← hx] at hy
        clear hx hY
        have hkm : (k : Int) < ((16 : Nat) : Int) := by omega
        gi_wp2
        refine ⟨hwide, hR.mono ?_⟩
        rintro e w4 ⟨rfl, hJ4, hs4⟩
        have WS4 : Wsn W w4 q g (16) cap rb (schedL xs (16)) := WS.same hs4
        have hsz4 := Nat.le_trans hsz hs4.1
        clear WS hs4 hxc hy hR
        gi_wp2
        go_roundw
        case rel => exact ⟨k + 1, g, 16, cap, by omega, by omega, rfl, by go_num, WS4, hJ4, hsz4⟩
        case measure => simp [intOf]; omega
    · have hkn : k = 64 := by omega
      subst hkn
      gi_wp2
      go_end0
      exact ⟨⟨_, rfl⟩, g, hJk⟩
end Go.Proofs.YtgapfkiceolceaaDoor

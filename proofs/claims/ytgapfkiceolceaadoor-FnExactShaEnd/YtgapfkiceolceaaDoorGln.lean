/-
  What is proved here: the contract of the program's method takeBlocks at words of 32 bits: the eight words behind a pointer go through all whole blocks of a slice of bytes that lies elsewhere, and the rest is told.
-/
import Derived.Test.YtgapfkiceolceaaDoorGkn
import Derived.Test.YtgapfkiceolceaaDoorQ3
import Derived.Test.YtgapfkiceolceaaDoorQ6
import Derived.Deep.RegionHeld3
namespace Go.Proofs.YtgapfkiceolceaaDoor
open Go.RowKit
set_option maxRecDepth 100000

/-- What the loop over the blocks holds. -/
structure Tbn (w W : World) (g rb : Nat) (st : List Int) : Prop where
  gr : w.grownBy W (some g)
  ar : Arr W g 65 (U32 st)
  ru : Arr W w.heap.size 74 [.int .i64 2, .int .i64 13, .int .i64 22, .int .i64 6, .int .i64 11, .int .i64 25, .int .i64 7, .int .i64 18, .int .i64 3, .int .i64 17, .int .i64 19, .int .i64 10, .slice (some ⟨rb, 0, none⟩) 64 64]
  rb : Arr W rb 111 (U32 KS)
theorem Tbn.all {w W : World} {g rb : Nat} {st : List Int} (h : Tbn w W g rb st) : W.cell? ⟨w.heap.size, 0, none⟩ = some (.int .i64 2) ∧ W.cell? ⟨w.heap.size, 1, none⟩ = some (.int .i64 13) ∧ W.cell? ⟨w.heap.size, 2, none⟩ = some (.int .i64 22) ∧ W.cell? ⟨w.heap.size, 3, none⟩ = some (.int .i64 6) ∧ W.cell? ⟨w.heap.size, 4, none⟩ = some (.int .i64 11) ∧ W.cell? ⟨w.heap.size, 5, none⟩ = some (.int .i64 25) ∧ W.cell? ⟨w.heap.size, 6, none⟩ = some (.int .i64 7) ∧ W.cell? ⟨w.heap.size, 7, none⟩ = some (.int .i64 18) ∧ W.cell? ⟨w.heap.size, 8, none⟩ = some (.int .i64 3) ∧ W.cell? ⟨w.heap.size, 9, none⟩ = some (.int .i64 17) ∧ W.cell? ⟨w.heap.size, 10, none⟩ = some (.int .i64 19) ∧ W.cell? ⟨w.heap.size, 11, none⟩ = some (.int .i64 10) ∧ W.cell? ⟨w.heap.size, 12, none⟩ = some (.slice (some ⟨rb, 0, none⟩) 64 64) :=
  ⟨h.ru.cell 0, h.ru.cell 1, h.ru.cell 2, h.ru.cell 3, h.ru.cell 4, h.ru.cell 5, h.ru.cell 6, h.ru.cell 7, h.ru.cell 8, h.ru.cell 9, h.ru.cell 10, h.ru.cell 11, h.ru.cell 12⟩
theorem Tbn.go {w A B : World} {g rb : Nat} {st st' : List Int} (h : Tbn w A g rb st) (hg : A.grownBy B (some g)) (ha : Arr B g 65 (U32 st')) (h1 : g < w.heap.size) (h2 : rb ≠ g) : Tbn w B g rb st' :=
  ⟨grown_trans h.gr hg, ha, (hg.block _ h.ru.lt (fun e => by injection e with e; omega)).trans h.ru, (hg.block _ h.rb.lt (fun e => by injection e with e; omega)).trans h.rb⟩

set_option maxHeartbeats 2000000 in
theorem takeBlocksCn (g : Nat) (hs : List Int) (a : Option Addr) (n c rb : Nat) (l : List Int) (w : World) (hA : Arr w g 65 (U32 hs)) (hl : hs.length = 8) (hx : Bs w a n c l) (ho : Off a g) (hrb : Arr w rb 111 (U32 KS)) (hgr : rb ≠ g) :
    Calls Tryd.prog 55 #[.pointer (some ⟨g, 0, none⟩), .slice a n c, rulesVn rb] w fun e w' => ∃ a' c', e = .returned (.slice a' (n % 64) c') ∧ Bs w' a' (n % 64) c' (l.drop (64 * (n / 64))) ∧ Off a' g ∧ Arr w' g 65 (U32 (fld hs l (n / 64))) ∧ w.grownBy w' (some g) := by
  have hll := hx.2.1
  have hgs := hA.lt
  obtain ⟨W, hW⟩ : ∃ W, W = w.alloc (.cells #[.int .i64 2, .int .i64 13, .int .i64 22, .int .i64 6, .int .i64 11, .int .i64 25, .int .i64 7, .int .i64 18, .int .i64 3, .int .i64 17, .int .i64 19, .int .i64 10, .slice (some ⟨rb, 0, none⟩) 64 64] 74) := ⟨_, rfl⟩
  have hB : Below w.heap.size w W := by rw [hW]; exact (Below.refl _ _).alloc (Nat.le_refl _) _
  have TB0 : Tbn w W g rb hs := ⟨grown_of_below hB _, hA.kept hB, by rw [hW]; exact Arr.new w [.int .i64 2, .int .i64 13, .int .i64 22, .int .i64 6, .int .i64 11, .int .i64 25, .int .i64 7, .int .i64 18, .int .i64 3, .int .i64 17, .int .i64 19, .int .i64 10, .slice (some ⟨rb, 0, none⟩) 64 64] _, hrb.kept hB⟩
  have hx0 := hx.below hB
  clear hA hrb hx hB
  go_enter Tryd.func55, Tryd.ntmps55
  go_wp2_with (go_at_call 87; refine (wordBytesn _).mono ?_; rintro e w' ⟨rfl, rfl⟩)
  rw [← hW]
  clear hW
  go_loopw [1] (fun v wr => ∃ (k : Nat) (a' : Option Addr) (m c' : Nat), v = .slice a' m c' ∧ m + 64 * k = n ∧ Bs wr a' m c' (l.drop (64 * k)) ∧ Off a' g ∧ Tbn w wr g rb (fld hs l k)) (fun v _ => match v with | .slice _ m _ => m | _ => 0)
  case atStart => exact ⟨0, a, n, c, rfl, rfl, by simpa using hx0, ho, TB0⟩
  case round =>
    clear hx0 ho TB0
    obtain ⟨k, a', m, c', rfl, hm, hx, ho, TB⟩ := hrel
    by_cases hBm : 64 ≤ m
    · have hBm' : (64 : Int) ≤ (m : Int) := by omega
      have hc' := hx.2.2.1
      obtain ⟨b, o, rfl⟩ : ∃ b o, a' = some ⟨b, o, none⟩ := by
        rcases hx.2.2.2.2 with h | ⟨b, o, h, _⟩
        · omega
        · exact ⟨b, o, h⟩
      have hcB : (64 : Int) ≤ (c' : Int) := by omega
      have TBd : Tbn w wr.drew g rb (fld hs l k) := ⟨grown_drew TB.gr, TB.ar.drew, TB.ru.drew, TB.rb.drew⟩
      have hxd : Bs wr.drew (some ⟨b, o, none⟩) m c' (l.drop (64 * k)) := hx.below (Below.refl _ _).drew
      clear TB hx
      go_wp2
      go_region_held3 (fun W => W.cell? ⟨w.heap.size, 0, none⟩ = some (.int .i64 2) ∧ W.cell? ⟨w.heap.size, 1, none⟩ = some (.int .i64 13) ∧ W.cell? ⟨w.heap.size, 2, none⟩ = some (.int .i64 22) ∧ W.cell? ⟨w.heap.size, 3, none⟩ = some (.int .i64 6) ∧ W.cell? ⟨w.heap.size, 4, none⟩ = some (.int .i64 11) ∧ W.cell? ⟨w.heap.size, 5, none⟩ = some (.int .i64 25) ∧ W.cell? ⟨w.heap.size, 6, none⟩ = some (.int .i64 7) ∧ W.cell? ⟨w.heap.size, 7, none⟩ = some (.int .i64 18) ∧ W.cell? ⟨w.heap.size, 8, none⟩ = some (.int .i64 3) ∧ W.cell? ⟨w.heap.size, 9, none⟩ = some (.int .i64 17) ∧ W.cell? ⟨w.heap.size, 10, none⟩ = some (.int .i64 19) ∧ W.cell? ⟨w.heap.size, 11, none⟩ = some (.int .i64 10) ∧ W.cell? ⟨w.heap.size, 12, none⟩ = some (.slice (some ⟨rb, 0, none⟩) 64 64))
        (exact TBd.all)
        ((go_at_call 67; refine (takeBlockCn g (fld hs l k) (some ⟨b, o, none⟩) c' rb ((l.drop (64 * k)).take 64) _ TBd.ar (fld_len hl l k) (hxd.take hBm) TBd.rb).mono ?_; rintro e w2 ⟨rfl, hA2, hg2⟩; replace TBd := TBd.go hg2 hA2 hgs hgr; replace hxd := hxd.grown hg2 ho; clear hA2 hg2))
      have hd : (l.drop (64 * k)).drop 64 = l.drop (64 * (k + 1)) := by rw [List.drop_drop]; congr 1
      have HD : Hid _ := hd
      have TB2 : Tbn w w2 g rb (fld hs l (k + 1)) := TBd
      clear hd TBd
      have hmB : ((m : Int) - 64).toNat = m - 64 := by omega
      have hcBn : ((c' : Int) - 64).toNat = c' - 64 := by omega
      by_cases hce : c' = 64
      · subst hce
        have hm0 : m = 64 := by omega
        subst hm0
        have hnil : l.drop (64 * (k + 1)) = [] := List.drop_eq_nil_of_le (by omega)
        have HX : Hid (Bs w2 (some ⟨b, o, none⟩) 0 0 (l.drop (64 * (k + 1)))) := Bs.none0 hnil
        clear hnil hxd
        go_wp2
        go_roundw
        case rel => exact ⟨k + 1, some ⟨b, o, none⟩, 0, 0, by first | rfl | simp, by omega, HX.out, ho, TB2⟩
        case measure => simp
      · have HX : Hid (Bs w2 (some ⟨b, o + 64, none⟩) (m - 64) (c' - 64) (l.drop (64 * (k + 1)))) := by
          unfold Hid
          rw [← HD.out]
          exact hxd.drop hBm
        have ho' : Off (some ⟨b, o + 64, none⟩) g := fun b' o' s he => by cases he; exact ho b o none rfl
        clear hxd
        go_wp2
        go_roundw
        case rel => exact ⟨k + 1, some ⟨b, o + 64, none⟩, m - 64, c' - 64, by first | rfl | simp, by omega, HX.out, ho', TB2⟩
        case measure => simp; omega
    · have hk : n / 64 = k := by omega
      have hrl : n % 64 = m := by omega
      have HRL : Hid _ := hrl
      have HKK : Hid _ := hk
      clear hrl hk
      have hBm' : ¬ ((64 : Int) ≤ (m : Int)) := by omega
      go_wp2
      go_ret
      refine ⟨a', c', ?_, ?_, ho, ?_, TB.gr⟩
      · rw [HRL.out]; rfl
      · rw [HRL.out, HKK.out]; exact hx
      · rw [HKK.out]; exact TB.ar
end Go.Proofs.YtgapfkiceolceaaDoor

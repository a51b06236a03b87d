/-
  What is proved here: the contract of the program's method takeBlocks: the eight words behind a pointer go through all whole blocks of a slice of bytes that lies elsewhere, and the rest is told. Where the program's two tables hold what its text lays into them.
-/
import Derived.Test.YtlglkbimnnmhdaaDoorNm
import Derived.Test.YtlglkbimnnmhdaaDoorSmB
namespace Go.Proofs.YtlglkbimnnmhdaaDoor
open Go.RowKit

/-- The words behind k blocks. -/
def fld (hs l : List Int) : Nat → List Int
  | 0 => hs
  | k + 1 => blk (fld hs l k) ((l.drop (64 * k)).take 64)
theorem fld_len {hs : List Int} (h : hs.length = 8) (l : List Int) (k : Nat) : (fld hs l k).length = 8 := by
  induction k with
  | zero => exact h
  | succ k ih => exact blk_len ih _
theorem fld_word {hs : List Int} (h : ∀ x ∈ hs, 0 ≤ x ∧ x < 4294967296) (l : List Int) (k : Nat) : ∀ x ∈ fld hs l k, 0 ≤ x ∧ x < 4294967296 := by
  cases k with
  | zero => exact h
  | succ k => exact blk_word _ _
/-- The words behind all whole blocks, and what is left. -/
def allB (hs l : List Int) : List Int := fld hs l (l.length / 64)
def restB (l : List Int) : List Int := l.drop (64 * (l.length / 64))

theorem Tabs.grown {w w' : World} (h : Tabs w) {g : Nat} (hg : w.grownBy w' (some g)) (h2 : 2 < g) : Tabs w' := by
  have hs := h.size
  exact ⟨fun j hj => (World.cell?_of_block (hg.block 2 hs (fun e => by cases e; omega))).trans (h.tt j hj), fun j hj => (World.cell?_of_block (hg.block 1 (by omega) (fun e => by cases e; omega))).trans (h.tk j hj)⟩

/-- The slice's bytes lie in another block. -/
def Off (a : Option Addr) (g : Nat) : Prop := ∀ b o s, a = some ⟨b, o, s⟩ → b ≠ g
theorem Bs.grown {w w' : World} {a : Option Addr} {n c g : Nat} {xs : List Int} (h : Bs w a n c xs) (hg : w.grownBy w' (some g)) (ho : Off a g) : Bs w' a n c xs := by
  obtain ⟨h0, h1, h2, h3, h4⟩ := h
  refine ⟨h0, h1, h2, h3, ?_⟩
  rcases h4 with h4 | ⟨b, o, ha, hlt, hc⟩
  · exact .inl h4
  · exact .inr ⟨b, o, ha, Nat.lt_of_lt_of_le hlt hg.size, fun j hj => (World.cell?_of_block (hg.block b hlt (fun e => ho b o none ha (by cases e; rfl)))).trans (hc j hj)⟩
theorem Bs.take {w : World} {a : Option Addr} {n c m : Nat} {xs : List Int} (h : Bs w a n c xs) (hm : m ≤ n) : Bs w a m c (xs.take m) := by
  obtain ⟨h0, h1, h2, h3, h4⟩ := h
  refine ⟨h0, by simp; omega, by omega, fun x hx => h3 x (List.mem_of_mem_take hx), ?_⟩
  rcases h4 with h4 | ⟨b, o, ha, hlt, hc⟩
  · exact .inl (by omega)
  · refine .inr ⟨b, o, ha, hlt, fun j hj => ?_⟩
    rw [hc j (by omega)]
    simp [List.getD, hj]
theorem Bs.drop {w : World} {b o : Nat} {n c m : Nat} {xs : List Int} (h : Bs w (some ⟨b, o, none⟩) n c xs) (hm : m ≤ n) : Bs w (some ⟨b, o + m, none⟩) (n - m) (c - m) (xs.drop m) := by
  obtain ⟨h0, h1, h2, h3, h4⟩ := h
  refine ⟨(fun h => by cases h), by simp; omega, by omega, fun x hx => h3 x (List.mem_of_mem_drop hx), ?_⟩
  by_cases hz : n - m = 0
  · exact .inl hz
  rcases h4 with h4 | ⟨b', o', ha, hlt, hc⟩
  · exact .inl (by omega)
  · cases ha
    refine .inr ⟨b, o + m, rfl, hlt, fun j hj => ?_⟩
    have := hc (m + j) (by omega)
    rw [show o + m + j = o + (m + j) by omega, this]
    simp [List.getD, List.getElem?_drop]
theorem Bs.none0 {w : World} {b o : Nat} {c : Nat} {xs : List Int} (hx : xs = []) : Bs w (some ⟨b, o, none⟩) 0 c xs := by
  subst hx
  exact ⟨(fun h => by cases h), rfl, Nat.zero_le _, by simp, .inl rfl⟩

set_option maxHeartbeats 1000000 in
theorem takeBlocksC (g : Nat) (hs : List Int) (a : Option Addr) (n c : Nat) (l : List Int) (w : World) (ht : Tabs w) (h2g : 2 < g) (hA : Arr w g 58 (U32 hs)) (hl : hs.length = 8) (hx : Bs w a n c l) (ho : Off a g) :
    Calls Tryd.prog 43 #[.pointer (some ⟨g, 0, none⟩), .slice a n c] w fun e w' => ∃ a' c', e = .returned (.slice a' (restB l).length c') ∧ Bs w' a' (restB l).length c' (restB l) ∧ Off a' g ∧ Arr w' g 58 (U32 (allB hs l)) ∧ w.grownBy w' (some g) := by
  have hll := hx.2.1
  go_enter Tryd.func43, Tryd.ntmps43
  go_wp2
  go_loopw [1] (fun v wr => ∃ (k : Nat) (a' : Option Addr) (m c' : Nat), v = .slice a' m c' ∧ m + 64 * k = n ∧ Bs wr a' m c' (l.drop (64 * k)) ∧ Off a' g ∧ Arr wr g 58 (U32 (fld hs l k)) ∧ w.grownBy wr (some g)) (fun v _ => match v with | .slice _ m _ => m | _ => 0)
  case atStart => exact ⟨0, a, n, c, rfl, rfl, by simpa using hx, ho, hA, World.grownBy.refl _ _⟩
  case round =>
    clear hA hx ho
    obtain ⟨k, a', m, c', rfl, hm, hx, ho, hA, hg⟩ := hrel
    by_cases h64 : 64 ≤ m
    · have h64' : (64 : Int) ≤ (m : Int) := by omega
      have hc' := hx.2.2.1
      obtain ⟨b, o, rfl⟩ : ∃ b o, a' = some ⟨b, o, none⟩ := by
        rcases hx.2.2.2.2 with h | ⟨b, o, h, _⟩
        · omega
        · exact ⟨b, o, h⟩
      have hc64 : (64 : Int) ≤ (c' : Int) := by omega
      go_wp2_with fail
      refine (takeBlockC g (fld hs l k) (some ⟨b, o, none⟩) c' ((l.drop (64 * k)).take 64) _ (ht.grown hg h2g) hA (fld_len hl l k) (hx.take h64)).mono ?_
      rintro e w2 ⟨rfl, hA2, hg2⟩
      have hg3 := grown_trans hg hg2
      have hx2 := hx.grown hg2 ho
      have hd : (l.drop (64 * k)).drop 64 = l.drop (64 * (k + 1)) := by rw [List.drop_drop]; congr 1
      have HD : Hid _ := hd
      clear hA hg hg2 hx hd
      have hm64 : ((m : Int) - 64).toNat = m - 64 := by omega
      have hc64n : ((c' : Int) - 64).toNat = c' - 64 := by omega
      by_cases hce : c' = 64
      · subst hce
        have hm0 : m = 64 := by omega
        subst hm0
        have hnil : l.drop (64 * (k + 1)) = [] := List.drop_eq_nil_of_le (by omega)
        have HX : Hid (Bs w2 (some ⟨b, o, none⟩) 0 0 (l.drop (64 * (k + 1)))) := Bs.none0 hnil
        clear hnil hx2
        go_wp2
        go_roundw
        case rel => exact ⟨k + 1, some ⟨b, o, none⟩, 0, 0, by first | rfl | simp, by omega, HX.out, ho, hA2, hg3⟩
        case measure => simp
      · have HX : Hid (Bs w2 (some ⟨b, o + 64, none⟩) (m - 64) (c' - 64) (l.drop (64 * (k + 1)))) := by
          unfold Hid
          rw [← HD.out]
          exact hx2.drop h64
        have ho' : Off (some ⟨b, o + 64, none⟩) g := fun b' o' s he => by cases he; exact ho b o none rfl
        clear hx2
        go_wp2
        go_roundw
        case rel => exact ⟨k + 1, some ⟨b, o + 64, none⟩, m - 64, c' - 64, by first | rfl | simp, by omega, HX.out, ho', hA2, hg3⟩
        case measure => simp; omega
    · have hk : k = n / 64 := by omega
      have hr : l.drop (64 * k) = restB l := by unfold restB; rw [hll, hk]
      have hf : fld hs l k = allB hs l := by unfold allB; rw [hll, hk]
      have hrl : (restB l).length = m := by rw [← hr]; simp; omega
      rw [hr] at hx
      rw [hf] at hA
      have HRL : Hid _ := hrl
      clear hr hf hrl hk
      have h64' : ¬ ((64 : Int) ≤ (m : Int)) := by omega
      go_wp2
      go_ret
      refine ⟨a', c', ?_, ?_, ho, hA, hg⟩
      · rw [HRL.out]; rfl
      · rw [HRL.out]; exact hx
end Go.Proofs.YtlglkbimnnmhdaaDoor

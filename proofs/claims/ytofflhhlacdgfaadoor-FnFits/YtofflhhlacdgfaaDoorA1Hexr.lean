/-
  What is proved here: contracts of the specification's and of the program's HexRead, for every slice of at most 2^20 bytes.
-/
import Derived.Test.YtofflhhlacdgfaaDoorA1Nib
import Derived.Deep.RegionHeld3
namespace Go.Proofs.YtofflhhlacdgfaaDoor
open Go.RowKit
set_option maxRecDepth 100000

def pairV (xs : List Int) (k : Nat) : Int := 16 * nib (xs.getD (2 * k) 0) + nib (xs.getD (2 * k + 1) 0)
def decL (xs : List Int) (k : Nat) : List Int := (List.range k).map (pairV xs)
abbrev goodAt (xs : List Int) (j : Nat) : Prop := 0 ≤ nib (xs.getD (2 * j) 0) ∧ 0 ≤ nib (xs.getD (2 * j + 1) 0)
abbrev allOk (xs : List Int) (k : Nat) : Prop := ∀ j, j < k → goodAt xs j
def hexRd (xs : List Int) : List Int × Bool :=
  if xs.length % 2 = 0 ∧ xs.length ≤ 8192 ∧ allOk xs (xs.length / 2) then (decL xs (xs.length / 2), true) else ([], false)

theorem decL_len (xs : List Int) (k : Nat) : (decL xs k).length = k := by simp [decL]
theorem decL_succ (xs : List Int) (k : Nat) : decL xs (k + 1) = decL xs k ++ [pairV xs k] := by simp [decL, List.range_succ]
theorem pairV_byte (xs : List Int) (k : Nat) (h : goodAt xs k) : 0 ≤ pairV xs k ∧ pairV xs k < 256 := by
  unfold pairV
  have h1 := nib_lt (xs.getD (2 * k) 0)
  have h2 := nib_lt (xs.getD (2 * k + 1) 0)
  obtain ⟨h3, h4⟩ := h
  omega
theorem hexRd_no (xs : List Int) (h : ¬ (xs.length % 2 = 0 ∧ xs.length ≤ 8192 ∧ allOk xs (xs.length / 2))) : hexRd xs = ([], false) := by unfold hexRd; rw [if_neg h]
theorem hexRd_yes (xs : List Int) (h : xs.length % 2 = 0 ∧ xs.length ≤ 8192 ∧ allOk xs (xs.length / 2)) : hexRd xs = (decL xs (xs.length / 2), true) := by unfold hexRd; rw [if_pos h]
theorem hexRd_len (xs : List Int) : (hexRd xs).1.length ≤ 4096 := by
  unfold hexRd
  split
  · rw [decL_len]; omega
  · simp
theorem hexRd_byte (xs : List Int) : ∀ x ∈ (hexRd xs).1, 0 ≤ x ∧ x < 256 := by
  unfold hexRd
  split
  · rename_i h
    intro x hx
    simp only [decL, List.mem_map, List.mem_range] at hx
    obtain ⟨j, hj, rfl⟩ := hx
    exact pairV_byte xs j (h.2.2 j hj)
  · simp

theorem tup_bool {v : Value} {a b : Bool} (h : a = b) : Ending.returned (.tuple #[v, .bool a]) = .returned (.tuple #[v, .bool b]) := by rw [h]

theorem wraps64 (n : Int) (h₀ : 0 ≤ n) (h₁ : n < 2 ^ 62) : IntKind.i64.wrap n = n := by rw [IntKind.wrap_i64]; omega

structure Carry (w W : World) (b o1 o2 : Nat) (x y : Int) (v : Value) (k : Nat) (l : List Int) : Prop where
  fr : Below w.heap.size w W
  lt : b < W.heap.size
  own : W.ownsRow w.heap.size 5 1 v k (U8 l)
  c1 : W.cell? ⟨b, o1, none⟩ = some (.int .u8 x)
  c2 : W.cell? ⟨b, o2, none⟩ = some (.int .u8 y)

theorem Carry.go {w W W' : World} {b o1 o2 : Nat} {x y : Int} {v : Value} {k : Nat} {l : List Int} (h : Carry w W b o1 o2 x y v k l) (hb : Below W.heap.size W W') : Carry w W' b o1 o2 x y v k l :=
  ⟨h.fr.trans (hb.mono h.fr.size), Nat.lt_of_lt_of_le h.lt hb.size, own_below h.own hb, (hb.cell (p := ⟨b, o1, none⟩) h.lt).trans h.c1, (hb.cell (p := ⟨b, o2, none⟩) h.lt).trans h.c2⟩

theorem Carry.drew {w W : World} {b o1 o2 : Nat} {x y : Int} {v : Value} {k : Nat} {l : List Int} (h : Carry w W b o1 o2 x y v k l) : Carry w W.drew b o1 o2 x y v k l :=
  h.go ⟨rfl, rfl, rfl, Nat.le_refl _, fun _ _ => rfl⟩

set_option maxHeartbeats 2000000 in
theorem specHexR (a : Option Addr) (n c : Nat) (xs : List Int) (w : World) (h : Bs w a n c xs) (hn : n ≤ 1048576) :
    Calls Tryd.prog 144 #[.slice a n c] w fun e w' => ∃ v, e = .returned (.tuple #[v, .bool (hexRd xs).2]) ∧ w'.ownsRow w.heap.size 5 1 v (hexRd xs).1.length (U8 (hexRd xs).1) ∧ Below w.heap.size w w' := by
  obtain ⟨_, hl, hc, hby, h⟩ := h
  by_cases hodd : (n : Int) % 2 = 0
  rotate_left
  · rw [hexRd_no xs (by omega)]
    have hne : ((n : Int) % 2 != 0) = true := by simp [hodd]
    clear hodd
    go_enter Tryd.func144, Tryd.ntmps144
    go_wp2
    go_ret2
    exact ⟨_, rfl, World.ownsRow_nil _ _ _ _, Below.refl _ _⟩
  have hne : ((n : Int) % 2 != 0) = false := by simp [hodd]
  have HO : Hid ((n : Int) % 2 = 0) := hodd
  clear hodd
  by_cases hbig : (8192 : Int) < (n : Int)
  · rw [hexRd_no xs (by omega)]
    go_enter Tryd.func144, Tryd.ntmps144
    go_wp2
    go_ret2
    exact ⟨_, rfl, World.ownsRow_nil _ _ _ _, Below.refl _ _⟩
  go_enter Tryd.func144, Tryd.ntmps144
  go_wp2
  go_loopw [4, 5] (fun v i wr => ∃ k : Nat, 2 * k ≤ n ∧ i = .int .i64 (2 * (k : Int)) ∧ Hid (allOk xs k) ∧ wr.ownsRow w.heap.size 5 1 v k (U8 (decL xs k)) ∧ Below w.heap.size w wr) (fun _ i _ => n - (intOf i).toNat)
  case atStart => exact ⟨0, by omega, rfl, (fun j hj => absurd hj (Nat.not_lt_zero _)), World.ownsRow_nil _ _ _ _, Below.refl _ _⟩
  case round =>
    obtain ⟨k, hk, rfl, HK, hown, hb⟩ := hrel
    by_cases hlt : 2 * k < n
    · have hlt2 : 2 * k + 1 < n := by have := HO.out; omega
      rcases h with h | ⟨b, o, rfl, hbs, hcell⟩
      · omega
      obtain ⟨x, hx⟩ : ∃ x, x = xs.getD (2 * k) 0 := ⟨_, rfl⟩
      obtain ⟨y, hy⟩ : ∃ y, y = xs.getD (2 * k + 1) 0 := ⟨_, rfl⟩
      have hck : wr.cell? ⟨b, o + 2 * k, none⟩ = some (.int .u8 x) := by rw [hx]; exact (hb.cell (p := ⟨b, o + 2 * k, none⟩) hbs).trans (hcell (2 * k) hlt)
      have hck' : wr.cell? ⟨b, o + (2 * k + 1), none⟩ = some (.int .u8 y) := by rw [hy]; exact (hb.cell (p := ⟨b, o + (2 * k + 1), none⟩) hbs).trans (hcell (2 * k + 1) hlt2)
      have hxb : 0 ≤ x ∧ x < 256 := by rw [hx]; exact get_byte hby (by omega)
      have hyb : 0 ≤ y ∧ y < 256 := by rw [hy]; exact get_byte hby (by omega)
      obtain ⟨hx0, hx1⟩ := hxb
      obtain ⟨hy0, hy1⟩ := hyb
      have HX : Hid (x = xs.getD (2 * k) 0) := hx
      have HY : Hid (y = xs.getD (2 * k + 1) 0) := hy
      clear hcell hx hy hby
      have hi1 : (2 * (k : Int)) < (n : Int) := by omega
      have hi2 : (2 * (k : Int)) + 1 < (n : Int) := by omega
      go_wp2
      go_quiet ((go_at_call 155; exact Calls.quiet_of_same (nibVal _ _ (by omega) (by omega))))
      have hp1 := nib_lt x
      have hq1 := nib_lt y
      have HP : Hid (nib x = nib (xs.getD (2 * k) 0)) := by unfold Hid; rw [HX.out]
      have HQ : Hid (nib y = nib (xs.getD (2 * k + 1) 0)) := by unfold Hid; rw [HY.out]
      generalize nib x = p at hp1 HP ⊢
      generalize nib y = q at hq1 HQ ⊢
      obtain ⟨hp1, hp2⟩ := hp1
      obtain ⟨hq1, hq2⟩ := hq1
      have hsz := hb.size
      have hb1 := hb.trans ((bel_drewN wr nq).mono hsz)
      have hown1 := own_below hown (bel_drewN wr nq)
      clear hck hck' hown hb
      by_cases hp : p < 0
      · have hno := hexRd_no xs (fun hh => by have := (hh.2.2 k (by omega)).1; rw [← HP.out] at this; omega)
        have HN : Hid _ := hno
        clear hno
        go_wp2
        go_ret2
        exact ⟨.slice none 0 0, tup_bool (by rw [HN.out]), by rw [HN.out]; exact World.ownsRow_nil _ _ _ _, hb1⟩
      by_cases hq : q < 0
      · have hno := hexRd_no xs (fun hh => by have := (hh.2.2 k (by omega)).2; rw [← HQ.out] at this; omega)
        have HN : Hid _ := hno
        clear hno
        go_wp2
        go_ret2
        exact ⟨.slice none 0 0, tup_bool (by rw [HN.out]), by rw [HN.out]; exact World.ownsRow_nil _ _ _ _, hb1⟩
      have hcv : IntKind.u8.wrap (16 * p + q) = 16 * p + q := by simp [IntKind.wrap, IntKind.signed, IntKind.bits]; omega
      have HS : Hid (decL xs (k + 1) = decL xs k ++ [16 * p + q]) := by unfold Hid; rw [decL_succ, HP.out, HQ.out]; rfl
      have HK2 : Hid (allOk xs (k + 1)) := fun j hj => by
        by_cases e : j = k
        · rw [e]; exact ⟨by rw [← HP.out]; omega, by rw [← HQ.out]; omega⟩
        · exact HK.out j (by omega)
      have hone := Bs.one (wr.drewN nq) (16 * p + q) (by omega) (by omega)
      go_wp2_with (at_builtin; refine wpl_append_bs rfl _ _ rfl w.heap.size _ k (decL xs k) rfl (some ⟨wr.heap.size, 0, none⟩) 1 1 [16 * p + q] rfl (hown1.alloc _) hone ?_ ?_ ?_)
      · omega
      · first | omega | (simp; omega)
      intro v' w' h1 h2 _
      have hb2 := below_app hb1 (by show w.heap.size ≤ (wr.drewN nq).heap.size; exact hsz) hown1 h2
      have HR : Hid (w'.ownsRow w.heap.size 5 1 v' (k + 1) (U8 (decL xs (k + 1)))) := by unfold Hid; rw [HS.out]; simpa using h1
      clear h1 h2 hown1 hb1 hone
      go_wp2
      go_roundw
      case rel => exact ⟨k + 1, by omega, by go_num, HK2, HR.out, hb2⟩
      case measure => simp [intOf]; omega
    · have hkn : 2 * k = n := by omega
      have hyes := hexRd_yes xs ⟨by omega, by omega, by rw [hl, show n / 2 = k by omega]; exact HK.out⟩
      rw [hl, show n / 2 = k by omega] at hyes
      have HN : Hid _ := hyes
      clear hyes hkn
      go_wp2
      go_ret2
      exact ⟨_, tup_bool (by rw [HN.out]), by rw [HN.out]; simpa [decL_len] using hown, hb⟩

end Go.Proofs.YtofflhhlacdgfaaDoor

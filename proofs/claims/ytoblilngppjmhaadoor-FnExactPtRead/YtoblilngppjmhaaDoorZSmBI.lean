/-
  What is proved here: contracts of two helpers of the exact laws (mark a slice of ints, look whether the marks are held), for every slice of at most 2^21 ints; plain facts on rows and cells beside a row that is marked, for the walks of the exact laws; no condition; plain mathematics on numbers in parts of sixteen bits: what a list of parts is worth, how parts are carried, and what that comes to modulo 2^255 - 19; no program is spoken of, no condition; plain mathematics on numbers in parts of sixteen bits: carried, compared, taken from each other, multiplied, raised to a power, modulo 2^255 - 19; no program is spoken of, no condition.
-/
import Derived.Test.YtoblilngppjmhaaDoorZKit
import Derived.Deep.MidRow
import Derived.Deep.RegionHeld3
import Derived.Deep.CutRange
import Derived.RowKit
namespace Go.Proofs.YtoblilngppjmhaaDoor
open Go.RowKit



/-- The marks: k0, k0 + 1, ... -/
def marksI (k0 : Int) (n : Nat) : List Int := (List.range n).map (fun j : Nat => (k0 + (j : Int)))
theorem marksI_len (k0 : Int) (n : Nat) : (marksI k0 n).length = n := by simp [marksI]
theorem marksI_get (k0 : Int) (n k : Nat) (h : k < n) : (marksI k0 n).getD k 0 = (k0 + (k : Int)) := by simp [marksI, h]
theorem marksI_int (k0 : Int) (n : Nat) (h0 : 0 ≤ k0) (h1 : k0 ≤ 10000000) (hn : n ≤ 2097152) : ∀ x ∈ marksI k0 n, -9223372036854775808 ≤ x ∧ x ≤ 9223372036854775807 := by
  intro x hx; simp only [marksI, List.mem_map, List.mem_range] at hx; obtain ⟨j, hj, rfl⟩ := hx; omega
theorem set_marksI (xs : List Int) (k0 : Int) (n k : Nat) (h : k < n) (hn : xs.length = n) :
    (I64 (marksI k0 k ++ xs.drop k)).set k (.int .i64 ((k0 + (k : Int)))) = I64 (marksI k0 (k + 1) ++ xs.drop (k + 1)) := by
  have e : xs.drop k = xs.getD k 0 :: xs.drop (k + 1) := by
    rw [List.drop_eq_getElem_cons (by omega)]; simp [show k < xs.length by omega]
  have e2 : marksI k0 (k + 1) = marksI k0 k ++ [(k0 + (k : Int))] := by simp [marksI, List.range_succ]
  rw [e, e2]
  simp only [I64, List.map_append, List.map_cons]
  rw [List.set_append_right _ _ (by simp [marksI_len])]
  simp [marksI_len]

set_option maxHeartbeats 400000 in
theorem markI {ty : Nat} (B n : Nat) (v : Value) (k0 : Int) (xs : List Int) (w : World) (hown : w.ownsRow B ty 1 v n (I64 xs)) (hn : n ≤ 2097152) (h0 : 0 ≤ k0) (h1 : k0 ≤ 10000000) :
    Calls Tryd.prog 98 #[v, .int .i64 k0] w fun e w' => e = .returned (.int .i64 (k0 + n)) ∧ w'.ownsRow B ty 1 v n (I64 (marksI k0 n)) ∧ w.grownBy w' v.ownBlock := by
  obtain ⟨hl, hs⟩ := own_shapeI hown
  rcases hs with ⟨rfl, rfl⟩ | ⟨g, cap, rfl, hg, hgs, hnc, hcm, hc, hf⟩
  · go_enter Tryd.func98, Tryd.ntmps98
    go_wp2
    refine wp_loop_rounds 1 ?_
    rw [rounds_succ]
    go_wp2
    go_ret
    exact ⟨by simp, by simpa [marksI] using World.ownsRow_nil w B ty 1, World.grownBy.refl _ _⟩
  · have hown0 : w.ownsRow B ty 1 (.slice (some ⟨g, 0, none⟩) n cap) n (I64 (marksI k0 0 ++ xs.drop 0)) := by simpa [marksI] using hown
    clear hown hc hf
    go_enter Tryd.func98, Tryd.ntmps98
    go_wp2
    go_loopw [1, 5] (fun m i wr => ∃ k : Nat, k ≤ n ∧ i = .int .i64 k ∧ m = .int .i64 (k0 + k) ∧ wr.ownsRow B ty 1 (.slice (some ⟨g, 0, none⟩) n cap) n (I64 (marksI k0 k ++ xs.drop k)) ∧ w.grownBy wr (some g)) (fun _ i _ => n - (intOf i).toNat)
    case atStart => exact ⟨0, Nat.zero_le _, rfl, by simp, hown0, World.grownBy.refl _ _⟩
    case round =>
      obtain ⟨k, hk, rfl, rfl, hown, hb⟩ := hrel
      clear hown0
      by_cases hlt : k < n
      · have hfz := hown.frozenAt k
        obtain ⟨u, hu⟩ : ∃ u, wr.cell? ⟨g, k, none⟩ = some u := by
          rw [hown.cellAt k (by omega)]
          have : k < (I64 (marksI k0 k ++ xs.drop k)).length := by simp [marksI_len]; omega
          exact ⟨_, List.getElem?_eq_getElem this⟩
        have hst := hown.stored k (.int .i64 ((k0 + (k : Int))))
        rw [set_marksI xs k0 n k hlt hl] at hst
        have HS : Hid _ := hst
        have HB : Hid _ := hb
        clear hst hb hown
        go_wp2
        go_roundw
        case rel => exact ⟨k + 1, by omega, by go_num, by go_num, HS.out.1, grown_trans HB.out HS.out.2⟩
        case measure => simp [intOf]; omega
      · have hkn : k = n := by omega
        subst hkn
        go_wp2
        go_ret
        refine ⟨rfl, ?_, hb⟩
        simpa [List.drop_eq_nil_of_le (show xs.length ≤ k by omega)] using hown

set_option maxHeartbeats 400000 in
theorem heldI (a : Option Addr) (n cap : Nat) (k0 : Int) (w : World) (h : Is w a n cap (marksI k0 n)) (hn : n ≤ 2097152) (h0 : 0 ≤ k0) (h1 : k0 ≤ 10000000) :
    Calls Tryd.prog 130 #[.slice a n cap, .int .i64 k0] w fun e w' => e = .returned (.int .i64 (k0 + n)) ∧ w' = w := by
  obtain ⟨_, hl, hc, _, h⟩ := h
  go_enter Tryd.func130, Tryd.ntmps130
  go_wp2
  go_loop [1, 5] (fun m i => ∃ k : Nat, k ≤ n ∧ i = .int .i64 k ∧ m = .int .i64 (k0 + k)) (fun _ i => n - (intOf i).toNat)
  case atStart => exact ⟨0, Nat.zero_le _, rfl, by simp⟩
  case round =>
    obtain ⟨k, hk, rfl, rfl⟩ := hrel
    by_cases hlt : k < n
    · rcases h with h | ⟨b, o, rfl, hbs, hcell⟩
      · omega
      · have hck : w.cell? ⟨b, o + k, none⟩ = some (.int .i64 ((k0 + (k : Int)))) := by rw [← marksI_get k0 n k hlt]; exact hcell k hlt
        have hxx : (((k0 + (k : Int))) != ((k0 + (k : Int)))) = false := by simp
        clear hcell
        go_wp2
        go_round
        case rel => exact ⟨k + 1, by omega, by go_num, by go_num⟩
        case measure => simp [intOf]; omega
    · have hkn : k = n := by omega
      subst hkn
      go_wp2
      go_ret
      exact ⟨rfl, rfl⟩
end Go.Proofs.YtoblilngppjmhaaDoor
namespace Go.Proofs.YtoblilngppjmhaaDoor
open Go.RowKit
set_option maxRecDepth 100000

theorem arr_mark {W W' : World} {u : Value} {a b g : Nat} {t : TypeId} {cs : List Value} (h : Arr W g t cs) (hg : W.grownBy W' u.ownBlock) (i1 : In u a b) (hl : g < a ∨ b ≤ g) : Arr W' g t cs := by
  have hne : some g ≠ u.ownBlock := fun e => i1.ne hl e.symm
  exact (hg.block g h.lt hne).trans h
theorem vr_mark {W W' : World} {u : Value} {a b g : Nat} {cs : List Value} (h : Vr W g cs) (hg : W.grownBy W' u.ownBlock) (i1 : In u a b) (hl : g < a ∨ b ≤ g) : Vr W' g cs := by
  have hne : some g ≠ u.ownBlock := fun e => i1.ne hl e.symm
  have hlt := h.lt
  obtain ⟨t, z, h⟩ := h
  exact ⟨t, z, (hg.block g hlt hne).trans h⟩
theorem heap_setCells_other {g k : Nat} (hne : k ≠ g) : ∀ (vs : List Value) {w : World} (j : Nat), (w.setCells g j vs).heap[k]? = w.heap[k]?
  | [], _, _ => rfl
  | v :: vs, w, j => (heap_setCells_other hne vs (j + 1)).trans (heap_setCell_other w ⟨g, j, none⟩ k v hne)
theorem own_setCells {W : World} {lo e s n hi E : Nat} {v : Value} {xs : List Value} (h : W.ownsRow lo e s v n xs) (i : In v lo hi) (hE : E < lo ∨ hi ≤ E) (cs : List Value) : (W.setCells E 0 cs).ownsRow lo e s v n xs := by
  refine ⟨h.1, ?_⟩
  rcases h.2 with hn | ⟨g, cap, cur, rfl, hg, hgg, rest⟩
  · exact .inl hn
  · have h1 := i g rfl
    exact .inr ⟨g, cap, cur, rfl, hg, (heap_setCells_other (by omega) cs 0).trans hgg, rest⟩
theorem arr_setO {W : World} {g k : Nat} {t : TypeId} {cs : List Value} (h : Arr W k t cs) (hne : k ≠ g) (vs : List Value) : Arr (W.setCells g 0 vs) k t cs := (heap_setCells_other hne vs 0).trans h
theorem vr_setO {W : World} {g k : Nat} {cs : List Value} (h : Vr W k cs) (hne : k ≠ g) (vs : List Value) : Vr (W.setCells g 0 vs) k cs := by
  obtain ⟨t, z, h⟩ := h
  exact ⟨t, z, (heap_setCells_other hne vs 0).trans h⟩
end Go.Proofs.YtoblilngppjmhaaDoor
namespace Go.Proofs.YtoblilngppjmhaaDoor
open Go.RowKit
set_option maxRecDepth 100000

/-- What a list of parts is worth, the lowest first. -/
def val : List Int → Int
  | [] => 0
  | x :: l => x + 65536 * val l
/-- The first n parts of a number. -/
def lim : Nat → Int → List Int
  | 0, _ => []
  | n + 1, x => x % 65536 :: lim n (x / 65536)
/-- All parts are below 2^16. -/
def Lm (l : List Int) : Prop := ∀ x ∈ l, 0 ≤ x ∧ x < 65536
theorem lim_len (n : Nat) (x : Int) : (lim n x).length = n := by
  induction n generalizing x with
  | zero => rfl
  | succ n ih => simp [lim, ih]
theorem lim_lm (n : Nat) (x : Int) : Lm (lim n x) := by
  induction n generalizing x with
  | zero => intro y hy; cases hy
  | succ n ih =>
    intro y hy
    simp only [lim, List.mem_cons] at hy
    rcases hy with rfl | h
    · omega
    · exact ih _ y h
theorem lim_val (l : List Int) (h : Lm l) : lim l.length (val l) = l := by
  induction l with
  | nil => rfl
  | cons x l ih =>
    have hx := h x (by simp)
    have hl : Lm l := fun y hy => h y (by simp [hy])
    simp only [val, List.length_cons, lim]
    rw [show (x + 65536 * val l) % 65536 = x by omega, show (x + 65536 * val l) / 65536 = val l by omega, ih hl]
theorem pow_pos16 (n : Nat) : (0 : Int) < 65536 ^ n := Int.pow_pos (by omega)
theorem emod_part (x M : Int) (hM : 0 < M) : x % 65536 + 65536 * (x / 65536 % M) = x % (65536 * M) := by
  have h1 := Int.emod_nonneg (x / 65536) (show M ≠ 0 by omega)
  have h2 := Int.emod_lt_of_pos (x / 65536) hM
  have h3 := Int.mul_ediv_add_emod (x / 65536) M
  obtain ⟨q, hq⟩ : ∃ q, q = x / 65536 := ⟨_, rfl⟩
  obtain ⟨r, hr⟩ : ∃ r, r = q % M := ⟨_, rfl⟩
  rw [← hq] at h1 h2 h3 ⊢
  rw [← hr] at h1 h2 h3 ⊢
  have hb : x % 65536 + 65536 * r < 65536 * M := by omega
  have hx : x = (x % 65536 + 65536 * r) + (65536 * M) * (q / M) := by
    have e : 65536 * M * (q / M) = 65536 * (M * (q / M)) := by rw [Int.mul_assoc]
    rw [e]
    omega
  have h0 : 0 ≤ x % 65536 + 65536 * r := by omega
  generalize hz : x % 65536 + 65536 * r = z at *
  rw [hx, Int.add_mul_emod_self_left, Int.emod_eq_of_lt h0 hb]
theorem val_lim (n : Nat) (x : Int) : val (lim n x) = x % 65536 ^ n := by
  induction n generalizing x with
  | zero => simp [lim, val, Int.emod_one]
  | succ n ih =>
    simp only [lim, val]
    rw [ih, Int.pow_succ, Int.mul_comm (65536 ^ n) 65536]
    exact emod_part x _ (pow_pos16 n)
theorem val_nonneg {l : List Int} (h : ∀ x ∈ l, 0 ≤ x) : 0 ≤ val l := by
  induction l with
  | nil => simp [val]
  | cons x l ih =>
    have hx := h x (by simp)
    have := ih (fun y hy => h y (by simp [hy]))
    simp only [val]; omega
theorem val_lt {l : List Int} (h : Lm l) : val l < 65536 ^ l.length := by
  induction l with
  | nil => simp [val]
  | cons x l ih =>
    have hx := h x (by simp)
    have := ih (fun y hy => h y (by simp [hy]))
    simp only [val, List.length_cons, Int.pow_succ]
    omega
theorem val_append (l m : List Int) : val (l ++ m) = val l + 65536 ^ l.length * val m := by
  induction l with
  | nil => simp [val]
  | cons x l ih =>
    simp only [List.cons_append, val, List.length_cons, ih, Int.pow_succ]
    rw [Int.mul_add, ← Int.mul_assoc, Int.mul_comm 65536 (65536 ^ l.length)]
    omega

/-- Parts that are carried, and what is carried out of them. -/
def cps : List Int → Int → List Int
  | [], _ => []
  | x :: l, c => (x + c) % 65536 :: cps l ((x + c) / 65536)
def cpc : List Int → Int → Int
  | [], c => c
  | x :: l, c => cpc l ((x + c) / 65536)
theorem cps_lim (l : List Int) (c : Int) : cps l c = lim l.length (val l + c) := by
  induction l generalizing c with
  | nil => rfl
  | cons x l ih =>
    simp only [cps, val, List.length_cons, lim]
    rw [ih, show (x + 65536 * val l + c) % 65536 = (x + c) % 65536 by omega, show (x + 65536 * val l + c) / 65536 = val l + (x + c) / 65536 by omega]
theorem cpc_div (l : List Int) (c : Int) : cpc l c = (val l + c) / 65536 ^ l.length := by
  induction l generalizing c with
  | nil => simp [cpc, val]
  | cons x l ih =>
    simp only [cpc, val, List.length_cons]
    rw [ih, Int.pow_succ, Int.mul_comm (65536 ^ l.length) 65536, ← Int.ediv_ediv_of_nonneg (by omega), show (x + 65536 * val l + c) / 65536 = val l + (x + c) / 65536 by omega]
theorem cps_len (l : List Int) (c : Int) : (cps l c).length = l.length := by rw [cps_lim, lim_len]
/-- What is carried behind k parts. -/
theorem cps_snoc (l : List Int) (x c : Int) : cps (l ++ [x]) c = cps l c ++ [(x + cpc l c) % 65536] := by
  induction l generalizing c with
  | nil => rfl
  | cons y l ih => simp [cps, cpc, ih]
theorem cpc_snoc (l : List Int) (x c : Int) : cpc (l ++ [x]) c = (x + cpc l c) / 65536 := by
  induction l generalizing c with
  | nil => rfl
  | cons y l ih => simp [cpc, ih]
/-- A part that grows by d. -/
theorem val_set (l : List Int) (j : Nat) (h : j < l.length) (v : Int) : val (l.set j v) = val l + 65536 ^ j * (v - l.getD j 0) := by
  induction l generalizing j with
  | nil => simp at h
  | cons x l ih =>
    cases j with
    | zero => simp [val]; omega
    | succ j =>
      have := ih j (by simpa using h)
      simp only [List.set_cons_succ, val, this, List.getD_cons_succ, Int.pow_succ]
      rw [Int.mul_add, ← Int.mul_assoc, Int.mul_comm 65536 (65536 ^ j)]
      omega

/-- The prime. -/
def P25519 : Int := 57896044618658097711785492504343953926634992332820282019728792003956564819949
theorem p256 : (65536 : Int) ^ 16 = 115792089237316195423570985008687907853269984665640564039457584007913129639936 := by decide
/-- One round of bringing back what is above 2^256. -/
def fold (v : Int) : Int := v % 115792089237316195423570985008687907853269984665640564039457584007913129639936 + 38 * (v / 115792089237316195423570985008687907853269984665640564039457584007913129639936)
theorem fold_mod (v : Int) : fold v % P25519 = v % P25519 := by
  unfold fold P25519
  omega
theorem fold_twice {v : Int} (h0 : 0 ≤ v) (h1 : v < 1989292945639146568621528992587283360401824603189390869761855907572637988050133502132224) : 0 ≤ fold (fold v) ∧ fold (fold v) < 115792089237316195423570985008687907853269984665640564039457584007913129639936 := by
  unfold fold
  omega
/-- What is above 2^255 brought back. -/
def fold5 (v : Int) : Int := v % 57896044618658097711785492504343953926634992332820282019728792003956564819968 + 19 * (v / 57896044618658097711785492504343953926634992332820282019728792003956564819968)
theorem fold5_mod {v : Int} (h0 : 0 ≤ v) (h1 : v < 115792089237316195423570985008687907853269984665640564039457584007913129639936) : fold5 v % P25519 = v % P25519 ∧ 0 ≤ fold5 v ∧ fold5 v < P25519 + 38 := by
  unfold fold5 P25519
  omega

/-- The lowest part grows. -/
def addH0 (l : List Int) (d : Int) : List Int := l.set 0 (l.getD 0 0 + d)
theorem addH0_val {l : List Int} (h : 0 < l.length) (d : Int) : val (addH0 l d) = val l + d := by
  unfold addH0
  rw [val_set l 0 h]
  simp only [Int.pow_zero, Int.one_mul]
  omega
/-- One round of carrying. -/
def rnd16 (l : List Int) : List Int := addH0 (cps l 0) (38 * cpc l 0)
theorem rnd16_len (l : List Int) : (rnd16 l).length = l.length := by simp [rnd16, addH0, cps_len]
theorem rnd16_val {l : List Int} (h : l.length = 16) : val (rnd16 l) = fold (val l) := by
  unfold rnd16
  rw [addH0_val (by rw [cps_len]; omega), cps_lim, val_lim, cpc_div, h, p256]
  unfold fold
  simp
theorem rnd3 {l : List Int} (hl : l.length = 16) (h0 : ∀ x ∈ l, 0 ≤ x) (h1 : val l < 1989292945639146568621528992587283360401824603189390869761855907572637988050133502132224) : rnd16 (rnd16 (rnd16 l)) = lim 16 (fold (fold (val l))) := by
  have hl1 : (rnd16 l).length = 16 := by rw [rnd16_len, hl]
  have hl2 : (rnd16 (rnd16 l)).length = 16 := by rw [rnd16_len, hl1]
  have hv : val (rnd16 (rnd16 l)) = fold (fold (val l)) := by rw [rnd16_val hl1, rnd16_val hl]
  have hb := fold_twice (val_nonneg h0) h1
  obtain ⟨v, hvv⟩ : ∃ v, v = fold (fold (val l)) := ⟨_, rfl⟩
  rw [← hvv] at hv hb ⊢
  unfold rnd16
  have e : cpc (rnd16 (rnd16 l)) 0 = 0 := by
    rw [cpc_div, hl2, p256, hv]
    omega
  have e2 : cps (rnd16 (rnd16 l)) 0 = lim 16 v := by rw [cps_lim, hl2, hv]; simp
  unfold rnd16 at e e2
  rw [e, e2]
  unfold addH0
  simp [lim]
/-- What is above 2^255 brought back, on the parts. -/
def top5 (l : List Int) : List Int := (addH0 l (19 * (l.getD 15 0 / 32768))).set 15 (l.getD 15 0 % 32768)
theorem lim_get (n : Nat) (x : Int) (j : Nat) (h : j < n) : (lim n x).getD j 0 = x / 65536 ^ j % 65536 := by
  induction n generalizing x j with
  | zero => omega
  | succ n ih =>
    cases j with
    | zero => simp [lim]
    | succ j =>
      simp only [lim, List.getD_cons_succ]
      rw [ih _ _ (by omega), Int.pow_succ, Int.mul_comm (65536 ^ j) 65536, Int.ediv_ediv_of_nonneg (by omega)]
theorem p240 : (65536 : Int) ^ 15 = 1766847064778384329583297500742918515827483896875618958121606201292619776 := by decide
theorem top5_val {v : Int} (h0 : 0 ≤ v) (h1 : v < 115792089237316195423570985008687907853269984665640564039457584007913129639936) : val (top5 (lim 16 v)) = fold5 v := by
  have hg : (lim 16 v).getD 15 0 = v / 1766847064778384329583297500742918515827483896875618958121606201292619776 := by
    rw [lim_get 16 v 15 (by omega), p240]
    omega
  have hlen : (addH0 (lim 16 v) (19 * ((lim 16 v).getD 15 0 / 32768))).length = 16 := by simp [addH0, lim_len]
  have hg2 : (addH0 (lim 16 v) (19 * ((lim 16 v).getD 15 0 / 32768))).getD 15 0 = (lim 16 v).getD 15 0 := by
    unfold addH0
    simp [List.getD]
  unfold top5
  rw [val_set _ 15 (by omega), hg2, addH0_val (by rw [lim_len]; omega), val_lim, p256, p240, hg]
  unfold fold5
  omega
theorem top5_len (l : List Int) : (top5 l).length = l.length := by simp [top5, addH0]
/-- What a number comes to, below the prime. -/
def red (v : Int) : List Int := lim 16 (v % P25519)
theorem red_lt (v : Int) : 0 ≤ v % P25519 ∧ v % P25519 < P25519 := by unfold P25519; omega
theorem val_red (v : Int) : val (red v) = v % P25519 := by
  unfold red
  have := red_lt v
  rw [val_lim, p256]
  unfold P25519 at *
  omega
theorem red_len (v : Int) : (red v).length = 16 := lim_len _ _
theorem red_lm (v : Int) : Lm (red v) := lim_lm _ _
/-- A list of sixteen parts that is a number of the field. -/
def feOk (l : List Int) : Bool := decide (l.length = 16) && l.all (fun x => decide (0 ≤ x ∧ x < 65536)) && decide (val l < P25519)
theorem feOk_iff (l : List Int) : feOk l = true ↔ l.length = 16 ∧ Lm l ∧ val l < P25519 := by
  unfold feOk Lm
  simp only [Bool.and_eq_true, decide_eq_true_eq, List.all_eq_true, and_assoc]
theorem red_val {l : List Int} (h : feOk l = true) : red (val l) = l := by
  obtain ⟨h1, h2, h3⟩ := (feOk_iff l).1 h
  have h0 := val_nonneg (fun x hx => (h2 x hx).1)
  unfold red
  rw [Int.emod_eq_of_lt h0 h3, ← h1]
  exact lim_val l h2
end Go.Proofs.YtoblilngppjmhaaDoor
namespace Go.Proofs.YtoblilngppjmhaaDoor
open Go.RowKit
set_option maxRecDepth 100000

theorem carry_lt {v : Int} (h0 : 0 ≤ v) (h1 : v < 1989292945639146568621528992587283360401824603189390869761855907572637988050133502132224) :
    (fold5 (fold (fold v)) < P25519 → fold5 (fold (fold v)) = v % P25519) ∧ (¬ fold5 (fold (fold v)) < P25519 → fold5 (fold (fold v)) - P25519 = v % P25519) ∧ 0 ≤ fold5 (fold (fold v)) ∧ fold5 (fold (fold v)) < P25519 + 38 := by
  have hb := fold_twice h0 h1
  have h5 := fold5_mod hb.1 hb.2
  have hm : fold5 (fold (fold v)) % P25519 = v % P25519 := by rw [h5.1, fold_mod, fold_mod]
  obtain ⟨x, hx⟩ : ∃ x, x = fold5 (fold (fold v)) := ⟨_, rfl⟩
  rw [← hx] at hm h5 ⊢
  rw [← hm]
  unfold P25519 at *
  omega
/-- The parts behind all carrying, ahead of the last comparison. -/
def pre5 (l : List Int) : List Int := cps (top5 (rnd16 (rnd16 (rnd16 l)))) 0
theorem pre5_lim {l : List Int} (hl : l.length = 16) (h0 : ∀ x ∈ l, 0 ≤ x) (h1 : val l < 1989292945639146568621528992587283360401824603189390869761855907572637988050133502132224) : pre5 l = lim 16 (fold5 (fold (fold (val l)))) := by
  have hb := fold_twice (val_nonneg h0) h1
  unfold pre5
  rw [rnd3 hl h0 h1, cps_lim, top5_len, lim_len, top5_val hb.1 hb.2, Int.add_zero]
theorem pre5_val {l : List Int} (hl : l.length = 16) (h0 : ∀ x ∈ l, 0 ≤ x) (h1 : val l < 1989292945639146568621528992587283360401824603189390869761855907572637988050133502132224) : val (pre5 l) = fold5 (fold (fold (val l))) := by
  have h2 := carry_lt (val_nonneg h0) h1
  rw [pre5_lim hl h0 h1, val_lim, p256]
  obtain ⟨x, hx⟩ : ∃ x, x = fold5 (fold (fold (val l))) := ⟨_, rfl⟩
  rw [← hx] at h2 ⊢
  unfold P25519 at h2
  omega

theorem zipSub_val : ∀ (a b : List Int), a.length = b.length → val (List.zipWith (fun x y => x - y) a b) = val a - val b
  | [], [], _ => by simp [val]
  | x :: a, y :: b, h => by
    have := zipSub_val a b (by simpa using h)
    simp only [List.zipWith_cons_cons, val, this]
    omega
  | [], _ :: _, h => by simp at h
  | _ :: _, [], h => by simp at h
/-- A difference, part by part. -/
def tk16 (a b : List Int) : List Int := cps (List.zipWith (fun x y => x - y) a b) 0
theorem tk16_lim {a b : List Int} (ha : a.length = 16) (hb : b.length = 16) : tk16 a b = lim 16 (val a - val b) := by
  unfold tk16
  rw [cps_lim, zipSub_val a b (by omega), Int.add_zero]
  simp [ha, hb]
theorem zipAdd_val : ∀ (a b : List Int), a.length = b.length → val (List.zipWith (fun x y => x + y) a b) = val a + val b
  | [], [], _ => by simp [val]
  | x :: a, y :: b, h => by
    have := zipAdd_val a b (by simpa using h)
    simp only [List.zipWith_cons_cons, val, this]
    omega
  | [], _ :: _, h => by simp at h
  | _ :: _, [], h => by simp at h

theorem val_split (l : List Int) (i : Nat) (h : i < l.length) : val l = val (l.take i) + 65536 ^ i * l.getD i 0 + 65536 ^ (i + 1) * val (l.drop (i + 1)) := by
  have e : l = l.take i ++ (l.getD i 0 :: l.drop (i + 1)) := by
    have : l.drop i = l.getD i 0 :: l.drop (i + 1) := by
      rw [List.drop_eq_getElem_cons h]; simp [h]
    rw [← this, List.take_append_drop]
  have hl : (l.take i).length = i := by simp; omega
  conv => lhs; rw [e]
  rw [val_append, hl]
  simp only [val]
  rw [Int.mul_add, Int.pow_succ, ← Int.mul_assoc]
  omega
theorem lt_at {a b : List Int} {n i : Nat} (ha : a.length = n) (hb : b.length = n) (la : Lm a) (lb : Lm b) (hi : i < n) (hd : a.drop (i + 1) = b.drop (i + 1)) (hne : a.getD i 0 ≠ b.getD i 0) : (a.getD i 0 < b.getD i 0) ↔ val a < val b := by
  have va := val_split a i (by omega)
  have vb := val_split b i (by omega)
  rw [hd] at va
  have ta : val (a.take i) < 65536 ^ i := by
    have := val_lt (l := a.take i) (fun x hx => la x (List.mem_of_mem_take hx))
    simpa [show min i a.length = i by omega] using this
  have tb : val (b.take i) < 65536 ^ i := by
    have := val_lt (l := b.take i) (fun x hx => lb x (List.mem_of_mem_take hx))
    simpa [show min i b.length = i by omega] using this
  have na := val_nonneg (l := a.take i) (fun x hx => (la x (List.mem_of_mem_take hx)).1)
  have nb := val_nonneg (l := b.take i) (fun x hx => (lb x (List.mem_of_mem_take hx)).1)
  obtain ⟨p, hp⟩ : ∃ p : Int, p = 65536 ^ i := ⟨_, rfl⟩
  have pp : 0 < p := by rw [hp]; exact pow_pos16 i
  rw [← hp] at va vb ta tb
  generalize 65536 ^ (i + 1) * val (b.drop (i + 1)) = R at va vb
  generalize a.getD i 0 = x at *
  generalize b.getD i 0 = y at *
  constructor
  · intro h
    have : p * (x + 1) ≤ p * y := Int.mul_le_mul_of_nonneg_left (by omega) (by omega)
    rw [Int.mul_add] at this
    omega
  · intro h
    by_cases hlt : x < y
    · exact hlt
    · have : p * (y + 1) ≤ p * x := Int.mul_le_mul_of_nonneg_left (by omega) (by omega)
      rw [Int.mul_add] at this
      omega

theorem val_take_succ (l : List Int) (i : Nat) (h : i < l.length) : val (l.take (i + 1)) = val (l.take i) + 65536 ^ i * l.getD i 0 := by
  have e : l.take (i + 1) = l.take i ++ [l.getD i 0] := by
    rw [List.take_add_one, List.getD, List.getElem?_eq_getElem h]; rfl
  have hl : (l.take i).length = i := by simp; omega
  rw [e, val_append, hl]
  simp [val]
/-- What the table of a product is worth when i whole rows and k parts of the next are in. -/
def prodAt (a b : List Int) (i k : Nat) : Int := val (a.take i) * val b + 65536 ^ i * a.getD i 0 * val (b.take k)
theorem prodAt_step (a b : List Int) (i k : Nat) (hk : k < b.length) : prodAt a b i (k + 1) = prodAt a b i k + 65536 ^ (i + k) * (a.getD i 0 * b.getD k 0) := by
  unfold prodAt
  rw [val_take_succ b k hk, Int.mul_add, Int.pow_add, ← Int.add_assoc]
  congr 1
  simp only [Int.mul_assoc]
  congr 1
  rw [← Int.mul_assoc, Int.mul_comm (a.getD i 0) (65536 ^ k), Int.mul_assoc]
theorem prodAt_row (a b : List Int) (i : Nat) (hi : i < a.length) : prodAt a b i b.length = prodAt a b (i + 1) 0 := by
  unfold prodAt
  rw [List.take_of_length_le (Nat.le_refl _), val_take_succ a i hi, Int.add_mul]
  simp [val]
theorem prodAt_end (a b : List Int) (h : a.length = 16) : prodAt a b 16 0 = val a * val b := by
  unfold prodAt
  rw [List.take_of_length_le (by omega)]
  simp [val]
end Go.Proofs.YtoblilngppjmhaaDoor

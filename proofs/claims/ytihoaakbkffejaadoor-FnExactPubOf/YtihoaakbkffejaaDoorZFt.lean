/-
  What is proved here: the contract of the specification's l4sub: the difference of two numbers of the field; and plain facts on cells that are set one behind the other; the contract of the specification's l4pow: a power of a number of the field; what an answer of the field is; no condition.
-/
import Derived.Test.YtihoaakbkffejaaDoorZFp
import Derived.Test.YtihoaakbkffejaaDoorZFq
namespace Go.Proofs.YtihoaakbkffejaaDoor
open Go.RowKit
set_option maxRecDepth 100000

/-- Two arrays that are read and one that is written, through whatever keeps what is there. -/
structure E3 (w W : World) (a b : List Int) : Prop where
  fr : Below w.heap.size w W
  pa : Arr W w.heap.size 31 (I64 a)
  pb : Arr W (w.heap.size + 1) 31 (I64 b)
  pr : Arr W (w.heap.size + 2) 31 (I64 Z16)
theorem E3.go {w A B : World} {a b : List Int} (h : E3 w A a b) (hb : Below A.heap.size A B) : E3 w B a b := ⟨h.fr.trans (hb.mono h.fr.size), h.pa.kept hb, h.pb.kept hb, h.pr.kept hb⟩
/-- What the loads read. -/
theorem E3.both {w W : World} {a b : List Int} (h : E3 w W a b) : W.rangeAt w.heap.size 0 (I64 a) ∧ W.rangeAt (w.heap.size + 1) 0 (I64 b) := ⟨arr_range h.pa, arr_range h.pb⟩

theorem red_sub {x y : Int} : (x + (P25519 - y)) % P25519 = (x - y) % P25519 := by
  rw [show x + (P25519 - y) = x - y + P25519 by omega, Int.add_emod_right]

set_option maxHeartbeats 2000000 in
theorem specSub16 (a b : List Int) (w : World) (ha : feOk a = true) (hb : feOk b = true) :
    Calls Tryd.prog 35 #[.agg (I64 a).toArray, .agg (I64 b).toArray] w fun e w' => e = .returned (.agg (I64 (red (val a - val b))).toArray) ∧ Below w.heap.size w w' := by
  obtain ⟨la16, la, _⟩ := (feOk_iff a).1 ha
  obtain ⟨lb16, lb, vb⟩ := (feOk_iff b).1 hb
  have nb := val_nonneg (fun x hx => (lb x hx).1)
  have htk : tk16 PL b = lim 16 (P25519 - val b) := by rw [tk16_lim PL_len lb16, PL_val]
  have htl : (tk16 PL b).length = 16 := by rw [htk, lim_len]
  have htm : Lm (tk16 PL b) := by rw [htk]; exact lim_lm _ _
  have htv : val (tk16 PL b) = P25519 - val b := by
    rw [htk, val_lim, p256]
    unfold P25519 at *
    omega
  have hres : red (val a + val (tk16 PL b)) = red (val a - val b) := by unfold red; rw [htv, red_sub]
  obtain ⟨T, hT⟩ : ∃ T, T = tk16 PL b := ⟨_, rfl⟩
  obtain ⟨R, hR⟩ : ∃ R, R = red (val a - val b) := ⟨_, rfl⟩
  have hRl : R.length = 16 := by rw [hR]; exact red_len _
  have HTK : Hid (∀ Z, Calls Tryd.prog 59 #[.agg (I64 PL).toArray, .agg (I64 b).toArray] Z fun e w' => e = .returned (.agg (I64 T).toArray) ∧ Below Z.heap.size Z w') := by
    unfold Hid; intro Z; rw [hT]; exact specTake PL b Z PL_len lb16 PL_lm lb
  have HAD : Hid (∀ Z, Calls Tryd.prog 36 #[.agg (I64 a).toArray, .agg (I64 T).toArray] Z fun e w' => e = .returned (.agg (I64 R).toArray) ∧ Below Z.heap.size Z w') := by
    unfold Hid; intro Z; rw [hT, hR, ← hres]; exact specAdd16 a (tk16 PL b) Z la16 htl la htm
  rw [← hR]
  obtain ⟨A, hA⟩ : ∃ A, A = (I64 a).toArray := ⟨_, rfl⟩
  obtain ⟨B, hB⟩ : ∃ B, B = (I64 b).toArray := ⟨_, rfl⟩
  rw [← hA, ← hB]
  obtain ⟨W, hW⟩ : ∃ W, W = ((w.alloc (.cells A 31)).alloc (.cells B 31)).alloc (.cells #[.int .i64 0, .int .i64 0, .int .i64 0, .int .i64 0, .int .i64 0, .int .i64 0, .int .i64 0, .int .i64 0, .int .i64 0, .int .i64 0, .int .i64 0, .int .i64 0, .int .i64 0, .int .i64 0, .int .i64 0, .int .i64 0] 31) := ⟨_, rfl⟩
  have EE : E3 w W a b := by
    refine ⟨?_, ?_, ?_, ?_⟩
    · rw [hW]; exact (((Below.refl _ _).alloc (Nat.le_refl _) _).alloc (by simp) _).alloc (by simp; omega) _
    · rw [hW, hA]; exact ((Arr.new w (I64 a) _).alloc _).alloc _
    · rw [hW, hB]
      have := (Arr.new (w.alloc (.cells A 31)) (I64 b) 31).alloc (.cells (I64 Z16).toArray 31)
      rw [World.size_alloc] at this
      exact this
    · rw [hW]
      have := Arr.new ((w.alloc (.cells A 31)).alloc (.cells B 31)) (I64 Z16) 31
      rw [World.size_alloc, World.size_alloc] at this
      exact this
  have EE' : E3 w W.drew a b := EE.go (Below.refl _ _).drew
  have hone : ∀ v ∈ I64 R, v.oneCell' = true := by
    intro v hv
    obtain ⟨x, _, rfl⟩ := List.mem_map.1 hv
    rfl
  clear ha hb la lb vb nb htk htl htm htv hres hT hR hA hB EE
  have hu : Tryd.prog.underlying 31 = some (.array 16 3) := Tryd.underlying31
  have hia : (Tryd.prog.info? 31).map (·.size) = some (I64 a).length := by simpa [la16] using infoE
  have hib : (Tryd.prog.info? 31).map (·.size) = some (I64 b).length := by simpa [lb16] using infoE
  go_enter Tryd.func35, Tryd.ntmps35
  go_wp2
  rw [← hW]
  clear hW
  refine wp_region_held_drew (S := fun W => W.rangeAt w.heap.size 0 (I64 a) ∧ W.rangeAt (w.heap.size + 1) 0 (I64 b)) (by kernel_rfl) EE'.both (fun hHeld => ?_)
  refine wpAnyH_take (i := 0) (oi := { dst := some 5, op := .load 31 (.tmp 2), type := 31, pos := "l04_field.go:108", after := #[], guard := none }) (v := _) rfl (by kernel_rfl) (by kernel_rfl) (by kernel_rfl) (fun _ _ _ h => h) (yieldsIf_load_mid (by rfl) _ _ rfl _ _ rfl (I64 a) _ (fun _ h => h.1) hu rfl hia) (by assumption) ?_
  simp only [Act.put, List.setIfInBounds_toArray, List.set_cons_zero, List.set_cons_succ]
  refine wpAnyH_take (i := 2) (oi := { dst := some 7, op := .load 31 (.tmp 3), type := 31, pos := "l04_field.go:108", after := #[], guard := none }) (v := _) rfl (by kernel_rfl) (by kernel_rfl) (by kernel_rfl) (fun _ _ _ h => h) (yieldsIf_load_mid (by rfl) _ _ rfl _ _ rfl (I64 b) _ (fun _ h => h.2) hu rfl hib) (by assumption) ?_
  simp only [Act.put, List.setIfInBounds_toArray, List.set_cons_zero, List.set_cons_succ]
  refine wpAnyH_ready (rs := [1]) (by kernel_rfl) (by simp) (AllReadyH.cons (o := { dst := some 6, op := .call { callee := .value (.func 60), args := #[], argTypes := #[] }, type := 31, pos := "l04_field.go:108", after := #[], guard := none }) rfl (fun K hK => ?_) AllReadyH.nil)
  go_simp
  refine (specPrime _).mono ?_
  rintro e w1 ⟨rfl, hb1⟩
  replace EE' := EE'.go hb1
  go_wp2_with fail
  refine hK.out _ _ EE'.both (fun hHeld => ?_)
  clear hK K hb1
  refine wpAnyH_ready (rs := [3]) (by kernel_rfl) (by simp) (AllReadyH.cons (o := { dst := some 8, op := .call { callee := .value (.func 59), args := #[.tmp 6, .tmp 7], argTypes := #[31, 31] }, type := 31, pos := "l04_field.go:108", after := #[{ on := 1, ground := .data }, { on := 2, ground := .data }, { on := 1, ground := .chain }], guard := none }) rfl (fun K hK => ?_) AllReadyH.nil)
  go_simp
  refine (HTK.out _).mono ?_
  rintro e w2 ⟨rfl, hb2⟩
  replace EE' := EE'.go hb2
  go_wp2_with fail
  refine hK.out _ _ EE'.both (fun hHeld => ?_)
  clear hK K hb2
  refine wpAnyH_ready (rs := [4]) (by kernel_rfl) (by simp) (AllReadyH.cons (o := { dst := some 9, op := .call { callee := .value (.func 36), args := #[.tmp 5, .tmp 8], argTypes := #[31, 31] }, type := 31, pos := "l04_field.go:108", after := #[{ on := 0, ground := .data }, { on := 3, ground := .data }, { on := 3, ground := .chain }], guard := none }) rfl (fun K hK => ?_) AllReadyH.nil)
  go_simp
  refine (HAD.out _).mono ?_
  rintro e w3 ⟨rfl, hb3⟩
  replace EE' := EE'.go hb3
  go_wp2_with fail
  refine hK.out _ _ EE'.both (fun hHeld => ?_)
  have hA5 : Arr (w3.setCells (w.heap.size + 1 + 1) 0 (I64 R)) (w.heap.size + 1 + 1) 31 (I64 R) := Arr.setCells0 EE'.pr (by simp [hRl])
  have hB5 : Below w.heap.size w (w3.setCells (w.heap.size + 1 + 1) 0 (I64 R)) := setCells_below (by omega) _ _ EE'.fr
  have hS5 : (w3.setCells (w.heap.size + 1 + 1) 0 (I64 R)).rangeAt w.heap.size 0 (I64 a) ∧ (w3.setCells (w.heap.size + 1 + 1) 0 (I64 R)).rangeAt (w.heap.size + 1) 0 (I64 b) := ⟨arr_range (Arr.setCellsO (by omega) _ _ EE'.pa), arr_range (Arr.setCellsO (by omega) _ _ EE'.pb)⟩
  have hth : w3.there (w.heap.size + 1 + 1) 0 (I64 R).toArray.size := by have := arr_there EE'.pr; simpa [hRl] using this
  have hir : (Tryd.prog.info? 31).map (·.size) = some (I64 R).toArray.size := by simpa [hRl] using infoE
  refine wpAnyH_ready (rs := [5]) (by kernel_rfl) (by simp) (AllReadyH.cons (o := { dst := none, op := .store 31 (.tmp 4) (.tmp 9), type := 0, pos := "l04_field.go:108", after := #[{ on := 4, ground := .data }, { on := 4, ground := .chain }, { on := 0, ground := .phase }, { on := 1, ground := .phase }, { on := 2, ground := .phase }, { on := 3, ground := .phase }, { on := 4, ground := .phase }], guard := none }) rfl (fun K hK => ?_) AllReadyH.nil)
  rw [if_pos (by rfl)]
  refine wp_store_mid _ _ _ rfl _ _ (I64 R).toArray rfl rfl hth hir (all_oneCell_toArray hone) ?_
  simp only [Act.put]
  refine hK.out _ _ hS5 (fun hHeld => ?_)
  clear hK K
  refine wpAnyH_done (by kernel_rfl) ?_ _
  go_wp2
  exact bodyPost_ret (results_cell_row rfl _ _ (w.heap.size + 1 + 1) 31 (I64 R).toArray (0, 0) _ rfl hA5 Tryd.underlying31 rfl (by simpa [hRl] using infoE)) rfl ⟨rfl, hB5⟩
end Go.Proofs.YtihoaakbkffejaaDoor
namespace Go.Proofs.YtihoaakbkffejaaDoor
open Go.RowKit
set_option maxRecDepth 100000

theorem red_mulr (x y : Int) : red (val (red x) * val (red y)) = red (x * y) := by
  rw [val_red, val_red, red, red, ← Int.mul_emod]
theorem red_mull (x y : Int) : red (val (red x) * y) = red (x * y) := by
  rw [val_red, red, red, Int.mul_emod, Int.emod_emod, ← Int.mul_emod]
theorem lim_one : lim 16 1 = red 1 := by decide
theorem bit_low (x r : Nat) (h : r < 16) : x % 65536 / 2 ^ r % 2 = x / 2 ^ r % 2 := by
  have : r = 0 ∨ r = 1 ∨ r = 2 ∨ r = 3 ∨ r = 4 ∨ r = 5 ∨ r = 6 ∨ r = 7 ∨ r = 8 ∨ r = 9 ∨ r = 10 ∨ r = 11 ∨ r = 12 ∨ r = 13 ∨ r = 14 ∨ r = 15 := by omega
  rcases this with rfl | rfl | rfl | rfl | rfl | rfl | rfl | rfl | rfl | rfl | rfl | rfl | rfl | rfl | rfl | rfl <;> omega
theorem bit_at {n : List Int} (hl : n.length = 16) (hm : Lm n) (j : Nat) (hj : j < 256) : n.getD (j / 16) 0 / 2 ^ (j % 16) % 2 = (((val n).toNat / 2 ^ j % 2 : Nat) : Int) := by
  have h0 := val_nonneg (fun x hx => (hm x hx).1)
  have h1 := lim_val n hm
  rw [hl] at h1
  obtain ⟨N, hN⟩ := Int.eq_ofNat_of_zero_le h0
  have h2 := lim_get 16 (val n) (j / 16) (by omega)
  rw [h1, hN] at h2
  rw [h2, hN, Int.toNat_natCast]
  have h3 : N / 65536 ^ (j / 16) % 65536 / 2 ^ (j % 16) % 2 = N / 2 ^ j % 2 := by
    rw [bit_low _ _ (by omega), show 65536 = 2 ^ 16 from rfl, ← Nat.pow_mul, Nat.div_div_eq_div_mul, ← Nat.pow_add, Nat.div_add_mod]
  rw [← h3]
  simp only [Int.natCast_ediv, Int.natCast_emod, Int.natCast_pow]
  rfl
theorem pow_bit (x : Int) (N j : Nat) : x ^ (N / 2 ^ j) = x ^ (N / 2 ^ (j + 1)) * x ^ (N / 2 ^ (j + 1)) * x ^ (N / 2 ^ j % 2) := by
  rw [← Int.pow_add, ← Int.pow_add]
  congr 1
  rw [Nat.pow_succ, ← Nat.div_div_eq_div_mul]
  omega

theorem i64_low1 {x : Int} (h0 : 0 ≤ x) (h1 : x < 9223372036854775808) : bits .and .i64 x 1 = x % 2 :=
  bits_mask .i64 63 (by decide) (fun n a b => by rw [IntKind.wrap_i64]; omega) 1 (by decide) x h0 h1
/-- The arrays of l4pow: the base, the exponent, the result's cell, the power so far. -/
structure EP (w W : World) (E : Nat) (a n r : List Int) : Prop where
  fr : Below w.heap.size w W
  pa : Arr W w.heap.size 31 (I64 a)
  pn : Arr W (w.heap.size + 1) 31 (I64 n)
  pz : Arr W (w.heap.size + 2) 31 (I64 Z16)
  pr : Arr W E 31 (I64 r)
  lt : w.heap.size + 2 < E
theorem EP.go {w A B : World} {E : Nat} {a n r : List Int} (h : EP w A E a n r) (hb : Below A.heap.size A B) : EP w B E a n r := ⟨h.fr.trans (hb.mono h.fr.size), h.pa.kept hb, h.pn.kept hb, h.pz.kept hb, h.pr.kept hb, h.lt⟩
theorem EP.put {w W : World} {E : Nat} {a n r : List Int} (h : EP w W E a n r) (s : List Int) : EP w (W.setRow E (I64 s).toArray) E a n s :=
  ⟨setRow_below h.fr E _ (by have := h.lt; omega), h.pa.rowOther E _ (by have := h.lt; omega), h.pn.rowOther E _ (by have := h.lt; omega), h.pz.rowOther E _ (by have := h.lt; omega), h.pr.row _, h.lt⟩

set_option maxHeartbeats 2000000 in
theorem specPow (a n : List Int) (w : World) (ha : a.length = 16) (hn : n.length = 16) (la : Lm a) (ln : Lm n) :
    Calls Tryd.prog 58 #[.agg (I64 a).toArray, .agg (I64 n).toArray] w fun e w' => e = .returned (.agg (I64 (red (val a ^ (val n).toNat))).toArray) ∧ Below w.heap.size w w' := by
  have hbit := bit_at hn ln
  have hN : (val n).toNat < 2 ^ 256 := by
    have h1 := val_lt ln
    have h0 := val_nonneg (fun x hx => (ln x hx).1)
    rw [hn, p256] at h1
    omega
  obtain ⟨N, hNN⟩ : ∃ N, N = (val n).toNat := ⟨_, rfl⟩
  rw [← hNN] at hbit hN ⊢
  obtain ⟨F, hF⟩ : ∃ F : Nat → List Int, ∀ m, F m = red (val a ^ (N / 2 ^ m)) := ⟨fun m => red (val a ^ (N / 2 ^ m)), fun _ => rfl⟩
  have HL : Hid (∀ m, (F m).length = 16 ∧ Lm (F m)) := by unfold Hid; intro m; rw [hF]; exact ⟨red_len _, red_lm _⟩
  have H256 : Hid (F 256 = red 1) := by unfold Hid; rw [hF, Nat.div_eq_of_lt hN, Int.pow_zero]
  have H1 : Hid (∀ j, j < 256 → n.getD (j / 16) 0 / 2 ^ (j % 16) % 2 = 1 → red (val (red (val (F (j + 1)) * val (F (j + 1)))) * val a) = F j) := by
    unfold Hid
    intro j hj hb
    have h2 := hbit j hj
    rw [hb] at h2
    rw [hF, hF, red_mulr, red_mull, pow_bit (val a) N j, show N / 2 ^ j % 2 = 1 by omega, Int.pow_one]
  have H0 : Hid (∀ j, j < 256 → n.getD (j / 16) 0 / 2 ^ (j % 16) % 2 ≠ 1 → red (val (F (j + 1)) * val (F (j + 1))) = F j) := by
    unfold Hid
    intro j hj hb
    have h2 := hbit j hj
    rw [hF, hF, red_mulr, pow_bit (val a) N j, show N / 2 ^ j % 2 = 0 by omega, Int.pow_zero, Int.mul_one]
  have hres : red (val a ^ N) = F 0 := by rw [hF, Nat.pow_zero, Nat.div_one]
  rw [hres]
  clear hres hF hbit hN hNN
  obtain ⟨A, hA⟩ : ∃ A, A = (I64 a).toArray := ⟨_, rfl⟩
  obtain ⟨B, hB⟩ : ∃ B, B = (I64 n).toArray := ⟨_, rfl⟩
  rw [← hA, ← hB]
  obtain ⟨W, hW⟩ : ∃ W, W = ((w.alloc (.cells A 31)).alloc (.cells B 31)).alloc (.cells #[.int .i64 0, .int .i64 0, .int .i64 0, .int .i64 0, .int .i64 0, .int .i64 0, .int .i64 0, .int .i64 0, .int .i64 0, .int .i64 0, .int .i64 0, .int .i64 0, .int .i64 0, .int .i64 0, .int .i64 0, .int .i64 0] 31) := ⟨_, rfl⟩
  have g0 : Arr W w.heap.size 31 (I64 a) := by rw [hW, hA]; exact ((Arr.new w (I64 a) _).alloc _).alloc _
  have g1 : Arr W (w.heap.size + 1) 31 (I64 n) := by
    rw [hW, hB]
    have := (Arr.new (w.alloc (.cells A 31)) (I64 n) 31).alloc (.cells (I64 Z16).toArray 31)
    rw [World.size_alloc] at this
    exact this
  have g2 : Arr W (w.heap.size + 2) 31 (I64 Z16) := by
    rw [hW]
    have := Arr.new ((w.alloc (.cells A 31)).alloc (.cells B 31)) (I64 Z16) 31
    rw [World.size_alloc, World.size_alloc] at this
    exact this
  have gB : Below w.heap.size w W := by rw [hW]; exact (((Below.refl _ _).alloc (Nat.le_refl _) _).alloc (by simp) _).alloc (by simp; omega) _
  clear hA hB
  go_enter Tryd.func58, Tryd.ntmps58
  go_wp2_with fail
  rw [← hW]
  clear hW
  refine (specSmall 1 _ (by omega) (by omega)).mono ?_
  rintro e w1 ⟨rfl, hb1⟩
  rw [lim_one]
  obtain ⟨R0, hR0⟩ : ∃ R, R = red 1 := ⟨_, rfl⟩
  have hRl : R0.length = 16 := by rw [hR0]; exact red_len _
  rw [← hR0]
  have HR0 : Hid _ := hR0
  clear hR0
  have hsz := (g2.kept hb1).lt
  have EE : EP w (w1.alloc (.cells (I64 Z16).toArray 31)) w1.heap.size a n Z16 := ⟨(gB.trans (hb1.mono gB.size)).alloc (gB.trans (hb1.mono gB.size)).size _, (g0.kept hb1).alloc _, (g1.kept hb1).alloc _, (g2.kept hb1).alloc _, Arr.new _ _ _, hsz⟩
  clear g0 g1 g2 gB hb1 hsz
  have hpr : Arr (w1.alloc (.cells #[.int .i64 0, .int .i64 0, .int .i64 0, .int .i64 0, .int .i64 0, .int .i64 0, .int .i64 0, .int .i64 0, .int .i64 0, .int .i64 0, .int .i64 0, .int .i64 0, .int .i64 0, .int .i64 0, .int .i64 0, .int .i64 0] 31)) w1.heap.size 31 (I64 Z16) := EE.pr
  have EE' := EE.put R0
  clear EE
  obtain ⟨E, hE⟩ : ∃ E, E = w1.heap.size := ⟨_, rfl⟩
  obtain ⟨W2, hW2⟩ : ∃ W2, W2 = w1.alloc (.cells (I64 Z16).toArray 31) := ⟨_, rfl⟩
  rw [← hE, ← hW2] at EE'
  go_wp2_with (refine wpList_store_row rfl 31 _ _ rfl w1.heap.size (I64 R0).toArray rfl rfl 31 _ hpr (by simpa [hRl] using infoE) (by simp [hRl]) (by simp [Value.oneCell']) ?_)
  rw [← hE, show w1.alloc (.cells #[.int .i64 0, .int .i64 0, .int .i64 0, .int .i64 0, .int .i64 0, .int .i64 0, .int .i64 0, .int .i64 0, .int .i64 0, .int .i64 0, .int .i64 0, .int .i64 0, .int .i64 0, .int .i64 0, .int .i64 0, .int .i64 0] 31) = W2 from hW2.symm]
  clear hpr hE hW2
  go_loopw [6] (fun i wr => ∃ (m : Nat) (z : Int), m ≤ 256 ∧ z = (m : Int) - 1 ∧ i = .int .i64 z ∧ EP w wr E a n (F m)) (fun i _ => (intOf i + 1).toNat)
  case atStart => exact ⟨256, 255, by omega, rfl, rfl, by rw [H256.out, ← HR0.out]; exact EE'⟩
  case round =>
    clear EE'
    obtain ⟨m, z, hm, hz, rfl, EE⟩ := hrel
    obtain ⟨R, hR⟩ : ∃ R, R = F m := ⟨_, rfl⟩
    rw [← hR] at EE
    have hRL : R.length = 16 := by rw [hR]; exact (HL.out m).1
    have hRM : Lm R := by rw [hR]; exact (HL.out m).2
    have HR : Hid _ := hR
    clear hR
    by_cases hm0 : m = 0
    · have hz0 : z < 0 := by omega
      have hz1 : ¬ (0 ≤ z) := by omega
      have HRR : Hid (R = F 0) := by unfold Hid; rw [HR.out, hm0]
      have hpr := EE.pr
      have hpz := EE.pz
      have hp2 := hpz.row (I64 R)
      have hb2 := setRow_below EE.fr (w.heap.size + 2) (I64 R).toArray (by omega)
      clear HR hz hm0 EE
      go_wp2_with (first
        | (refine wpList_load_row rfl 31 _ rfl E rfl 31 (I64 R).toArray (0, 0) _ hpr Tryd.underlying31 rfl (by simpa [hRL] using infoE) ?_)
        | (refine wpList_store_row rfl 31 _ _ rfl (w.heap.size + 2) (I64 R).toArray rfl rfl 31 _ hpz (by simpa [hRL] using infoE) (by simp [hRL]) (by simp [Value.oneCell']) ?_))
      exact bodyPost_ret (results_cell_row rfl _ _ (w.heap.size + 2) 31 (I64 R).toArray (0, 0) _ rfl hp2 Tryd.underlying31 rfl (by simpa [hRL] using infoE)) rfl ⟨by rw [HRR.out], hb2⟩
    · obtain ⟨j, rfl⟩ : ∃ j, m = j + 1 := ⟨m - 1, by omega⟩
      obtain rfl : z = (j : Int) := by omega
      clear hz hm0
      have hpr := EE.pr
      go_wp2_with (refine wpList_load_row rfl 31 _ rfl E rfl 31 (I64 R).toArray (0, 0) _ hpr Tryd.underlying31 rfl (by simpa [hRL] using infoE) ?_)
      refine (specMul16 R R _ hRL hRL hRM hRM).mono ?_
      rintro e w2 ⟨rfl, hb2⟩
      replace EE := EE.go hb2
      clear hpr hb2
      obtain ⟨S, hS⟩ : ∃ S, S = red (val R * val R) := ⟨_, rfl⟩
      have hSL : S.length = 16 := by rw [hS]; exact red_len _
      have hSM : Lm S := by rw [hS]; exact red_lm _
      rw [← hS]
      have HS : Hid _ := hS
      clear hS
      have hpr := EE.pr
      replace EE := EE.put S
      obtain ⟨x, hx⟩ : ∃ x, x = n.getD (j / 16) 0 := ⟨_, rfl⟩
      have hcx := EE.pn.i64 (j / 16) (by omega)
      rw [← hx] at hcx
      have hj16 : ((j : Int) / 16).toNat = j / 16 := by omega
      have hxb := gD_lm ln (j / 16)
      rw [← hx] at hxb
      have HX : Hid _ := hx
      clear hx
      have hj0 : (0 : Int) ≤ (j : Int) := by omega
      have hj1 : (j : Int) / 16 < 16 := by omega
      have hj2 : (0 : Int) ≤ (j : Int) / 16 := by omega
      have hy0 : 0 ≤ x / 2 ^ (j % 16) := Int.ediv_nonneg hxb.1 (Int.le_of_lt (Int.pow_pos (by omega)))
      have hy1 : x / 2 ^ (j % 16) ≤ x := Int.ediv_le_self _ hxb.1
      have hand : bits .and .i64 (x / 2 ^ (j % 16)) 1 = x / 2 ^ (j % 16) % 2 := i64_low1 hy0 (by omega)
      have hpS := EE.pr
      have hpA := EE.pa
      have hlt := EE.lt
      by_cases hbt : x / 2 ^ (j % 16) % 2 = 1
      · have HF : Hid (red (val S * val a) = F j) := by
          unfold Hid
          rw [HS.out, HR.out]
          exact H1.out j (by omega) (by rw [← HX.out]; exact hbt)
        go_wp2_with (first
          | (refine wpList_store_row rfl 31 _ _ rfl E (I64 S).toArray rfl rfl 31 _ hpr (by simpa [hSL] using infoE) (by simp [hSL, hRL]) (by simp [Value.oneCell']) ?_)
          | (refine wpList_load_row rfl 31 _ rfl E rfl 31 (I64 S).toArray (0, 0) _ hpS Tryd.underlying31 rfl (by simpa [hSL] using infoE) ?_)
          | (refine wpList_load_row rfl 31 _ rfl w.heap.size rfl 31 (I64 a).toArray (0, 0) _ hpA Tryd.underlying31 rfl (by simpa [ha] using infoE) ?_))
        refine (specMul16 S a _ hSL ha hSM la).mono ?_
        rintro e w3 ⟨rfl, hb3⟩
        replace EE := EE.go hb3
        rw [HF.out]
        obtain ⟨T, hT⟩ : ∃ T, T = F j := ⟨_, rfl⟩
        have hTL : T.length = 16 := by rw [hT]; exact (HL.out j).1
        rw [← hT]
        have HT : Hid _ := hT
        clear hT hpr hpS hpA hb3 hcx hbt hand
        have hpr := EE.pr
        replace EE := EE.put T
        rw [HT.out] at EE
        have HE : Hid _ := EE
        rw [← HT.out] at HE
        clear EE
        go_wp2_with (refine wpList_store_row rfl 31 _ _ rfl E (I64 T).toArray rfl rfl 31 _ hpr (by simpa [hTL] using infoE) (by simp [hTL, hSL]) (by simp [Value.oneCell']) ?_)
        clear hpr
        go_roundw
        case rel => exact ⟨j, (j : Int) - 1, by omega, rfl, by go_num, HT.out ▸ HE.out⟩
        case measure => simp [intOf]
      · have HF : Hid (S = F j) := by
          unfold Hid
          rw [HS.out, HR.out]
          exact H0.out j (by omega) (by rw [← HX.out]; exact hbt)
        go_wp2_with (refine wpList_store_row rfl 31 _ _ rfl E (I64 S).toArray rfl rfl 31 _ hpr (by simpa [hSL] using infoE) (by simp [hSL, hRL]) (by simp [Value.oneCell']) ?_)
        clear hpr hpS hpA
        go_roundw
        case rel => exact ⟨j, (j : Int) - 1, by omega, rfl, by go_num, HF.out ▸ EE⟩
        case measure => simp [intOf]
end Go.Proofs.YtihoaakbkffejaaDoor
namespace Go.Proofs.YtihoaakbkffejaaDoor
open Go.RowKit
set_option maxRecDepth 100000

end Go.Proofs.YtihoaakbkffejaaDoor

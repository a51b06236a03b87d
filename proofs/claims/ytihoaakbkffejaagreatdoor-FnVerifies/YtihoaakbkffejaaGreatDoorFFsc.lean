/-
  What is proved here: plain facts on cells that are set one behind the other; the contract of the specification's l4sub: the difference of two numbers; the contract of the specification's l4pow: a power of a number of the field; what an answer of the field is; contracts of the specification's l4inv and l4zero: the inverse of a number; a point in the long form as the specification keeps it in memory: how it; plain facts on worlds of which one block may have turned, and on reading a; plain facts on a variable's block; what a variable of the program holds stays through stores elsewhere.
-/
import Derived.Test.YtihoaakbkffejaaGreatDoorFFm
import Derived.Deep.RegionHeld3
import Derived.Test.YtihoaakbkffejaaGreatDoorFFc
import Derived.Test.YtihoaakbkffejaaGreatDoorFYe
import Derived.Test.YtihoaakbkffejaaGreatDoorFHbt
import Derived.BigRegion
namespace Go.Proofs.YtihoaakbkffejaaGreatDoor
open Go.RowKit
set_option maxRecDepth 100000

def setV (cs : List Value) : Nat → List Value → List Value
 | _, [] => cs
 | j, v :: vs => setV (cs.set j v) (j + 1) vs
theorem setV_eq : ∀ (vs pre : List Value) (cs : List Value), cs.length = vs.length → setV (pre ++ cs) pre.length vs = pre ++ vs
 | [], pre, cs, h => by
  have : cs = [] := List.eq_nil_of_length_eq_zero (by simpa using h)
  simp [setV, this]
 | v :: vs, pre, c :: cs, h => by
  have := setV_eq vs (pre ++ [v]) cs (by simpa using h)
  simp only [setV]
  rw [show (pre ++ c :: cs).set pre.length v = (pre ++ [v]) ++ cs by simp]
  simpa using this
 | _ :: _, _, [], h => by simp at h
theorem Arr.setCells {g : Nat} {t : TypeId} : ∀ (vs : List Value) {w : World} {cs : List Value} (j : Nat), Arr w g t cs → Arr (w.setCells g j vs) g t (setV cs j vs)
 | [], _, _, _, h => h
 | v :: vs, _, _, j, h => Arr.setCells vs (j + 1) (h.set j v)
theorem Arr.setCells0 {w : World} {g : Nat} {t : TypeId} {cs vs : List Value} (h : Arr w g t cs) (hl : cs.length = vs.length) : Arr (w.setCells g 0 vs) g t vs := by
 have := Arr.setCells vs 0 h
 rw [show setV cs 0 vs = vs from setV_eq vs [] cs hl] at this
 exact this
theorem Arr.setCellsO {g k : Nat} {t : TypeId} (hne : k ≠ g) : ∀ (vs : List Value) {w : World} {cs : List Value} (j : Nat), Arr w k t cs → Arr (w.setCells g j vs) k t cs
 | [], _, _, _, h => h
 | v :: vs, _, _, j, h => Arr.setCellsO hne vs (j + 1) (h.other ⟨g, j, none⟩ v hne)
theorem setCells_below {B g : Nat} {w0 : World} (hg : B ≤ g) : ∀ (vs : List Value) {w : World} (j : Nat), Below B w0 w → Below B w0 (w.setCells g j vs)
 | [], _, _, h => h
 | v :: vs, _, j, h => setCells_below hg vs (j + 1) (h.setCell (p := ⟨g, j, none⟩) hg v)
theorem arr_there {W : World} {g : Nat} {t : TypeId} {cs : List Value} (h : Arr W g t cs) : W.there g 0 cs.length := by
 intro j hj
 rw [Nat.zero_add]
 refine ⟨?_, h.frozen j⟩
 rw [h.cell j, List.getElem?_eq_getElem hj]
 rfl
structure E3 (w W : World) (a b : List Int) : Prop where
 fr : Below w.heap.size w W
 pa : Arr W w.heap.size 80 (I64 a)
 pb : Arr W (w.heap.size + 1) 80 (I64 b)
 pr : Arr W (w.heap.size + 2) 80 (I64 Z16)
theorem E3.go {w A B : World} {a b : List Int} (h : E3 w A a b) (hb : Below A.heap.size A B) : E3 w B a b := ⟨h.fr.trans (hb.mono h.fr.size), h.pa.kept hb, h.pb.kept hb, h.pr.kept hb⟩
theorem E3.both {w W : World} {a b : List Int} (h : E3 w W a b) : W.rangeAt w.heap.size 0 (I64 a) ∧ W.rangeAt (w.heap.size + 1) 0 (I64 b) := ⟨arr_range h.pa, arr_range h.pb⟩

theorem red_sub {x y : Int} : (x + (P25519 - y)) % P25519 = (x - y) % P25519 := by
 rw [show x + (P25519 - y) = x - y + P25519 by omega, Int.add_emod_right]

set_option maxHeartbeats 2000000 in
theorem specSub16 (a b : List Int) (w : World) (ha : feOk a = true) (hb : feOk b = true) :
  Calls Tryz.prog 114 #[.agg (I64 a).toArray, .agg (I64 b).toArray] w fun e w' => e = .returned (.agg (I64 (red (val a - val b))).toArray) ∧ Below w.heap.size w w' := by
 obtain ⟨la16, la, _⟩ := (feOk_iff a).1 ha
 obtain ⟨lb16, lb, vb⟩ := (feOk_iff b).1 hb
 have nb := val_nonneg (fun x hx => (lb x hx).1)
 have htk : tk16 PL b = lim 16 (P25519 - val b) := by rw [tk16_lim PL_len lb16, PL_val]
 have htl : (tk16 PL b).length = 16 := by rw [htk, lim_len]
 have htm : Lm (tk16 PL b) := by rw [htk]; exact lim_lm _ _
 have htv : val (tk16 PL b) = P25519 - val b := by
  rw [htk, val_lim, p256]
  unfold P25519 at *
  omega
 have hres : red (val a + val (tk16 PL b)) = red (val a - val b) := by unfold red; rw [htv, red_sub]
 obtain ⟨T, hT⟩ : ∃ T, T = tk16 PL b := ⟨_, rfl⟩
 obtain ⟨R, hR⟩ : ∃ R, R = red (val a - val b) := ⟨_, rfl⟩
 have hRl : R.length = 16 := by rw [hR]; exact red_len _
 have HTK : Hid (∀ Z, Calls Tryz.prog 120 #[.agg (I64 PL).toArray, .agg (I64 b).toArray] Z fun e w' => e = .returned (.agg (I64 T).toArray) ∧ Below Z.heap.size Z w') := by
  unfold Hid; intro Z; rw [hT]; exact specTake PL b Z PL_len lb16 PL_lm lb
 have HAD : Hid (∀ Z, Calls Tryz.prog 116 #[.agg (I64 a).toArray, .agg (I64 T).toArray] Z fun e w' => e = .returned (.agg (I64 R).toArray) ∧ Below Z.heap.size Z w') := by
  unfold Hid; intro Z; rw [hT, hR, ← hres]; exact specAdd16 a (tk16 PL b) Z la16 htl la htm
 rw [← hR]
 obtain ⟨A, hA⟩ : ∃ A, A = (I64 a).toArray := ⟨_, rfl⟩
 obtain ⟨B, hB⟩ : ∃ B, B = (I64 b).toArray := ⟨_, rfl⟩
 rw [← hA, ← hB]
 obtain ⟨W, hW⟩ : ∃ W, W = ((w.alloc (.cells A 80)).alloc (.cells B 80)).alloc (.cells zV 80) := ⟨_, rfl⟩
 have EE : E3 w W a b := by
  refine ⟨?_, ?_, ?_, ?_⟩
  ·rw [hW]; exact (((Below.refl _ _).alloc (Nat.le_refl _) _).alloc (by simp) _).alloc (by simp; omega) _
  ·rw [hW, hA]; exact ((Arr.new w (I64 a) _).alloc _).alloc _
  ·rw [hW, hB]
   have := (Arr.new (w.alloc (.cells A 80)) (I64 b) 80).alloc (.cells (I64 Z16).toArray 80)
   rw [World.size_alloc] at this
   exact this
  ·rw [hW]
   have := Arr.new ((w.alloc (.cells A 80)).alloc (.cells B 80)) (I64 Z16) 80
   rw [World.size_alloc, World.size_alloc] at this
   exact this
 have EE' : E3 w W.drew a b := EE.go (Below.refl _ _).drew
 have hone : ∀ v ∈ I64 R, v.oneCell' = true := by
  intro v hv
  obtain ⟨x, _, rfl⟩ := List.mem_map.1 hv
  rfl
 clear ha hb la lb vb nb htk htl htm htv hres hT hR hA hB EE
 have hu : Tryz.prog.underlying 80 = some (.array 16 3) := Tryz.underlying80
 have hia : (Tryz.prog.info? 80).map (·.size) = some (I64 a).length := by simpa [la16] using infoE
 have hib : (Tryz.prog.info? 80).map (·.size) = some (I64 b).length := by simpa [lb16] using infoE
 go_enter Tryz.func114, Tryz.ntmps114
 go_wp2
 rw [← hW]
 clear hW
 refine wp_region_held_drew (S := fun W => W.rangeAt w.heap.size 0 (I64 a) ∧ W.rangeAt (w.heap.size + 1) 0 (I64 b)) (by kernel_rfl) EE'.both (fun hHeld => ?_)
 refine wpAnyH_take (i := 0) (oi := { dst := some 5, op := .load 80 (.tmp 2), type := 80, pos := "l04_field.go:108", after := #[], guard := none }) (v := _) rfl (by kernel_rfl) (by kernel_rfl) (by kernel_rfl) (fun _ _ _ h => h) (yieldsIf_load_mid (by rfl) _ _ rfl _ _ rfl (I64 a) _ (fun _ h => h.1) hu rfl hia) (by assumption) ?_
 simp only [aP]
 refine wpAnyH_take (i := 2) (oi := { dst := some 7, op := .load 80 (.tmp 3), type := 80, pos := "l04_field.go:108", after := #[], guard := none }) (v := _) rfl (by kernel_rfl) (by kernel_rfl) (by kernel_rfl) (fun _ _ _ h => h) (yieldsIf_load_mid (by rfl) _ _ rfl _ _ rfl (I64 b) _ (fun _ h => h.2) hu rfl hib) (by assumption) ?_
 simp only [aP]
 refine wpAnyH_ready (rs := [1]) (by kernel_rfl) (by simp) (AllReadyH.cons (o := { dst := some 6, op := .call { callee := .value (.func 112), args := #[], argTypes := #[] }, type := 80, pos := "l04_field.go:108", after := #[], guard := none }) rfl (fun K hK => ?_) AllReadyH.nil)
 go_simp
 refine (specPrime _).mono ?_
 rintro e w1 ⟨rfl, hb1⟩
 replace EE' := EE'.go hb1
 go_wp2_with fail
 refine hK.out _ _ EE'.both (fun hHeld => ?_)
 clear hK K hb1
 refine wpAnyH_ready (rs := [3]) (by kernel_rfl) (by simp) (AllReadyH.cons (o := { dst := some 8, op := .call { callee := .value (.func 120), args := #[.tmp 6, .tmp 7], argTypes := #[80, 80] }, type := 80, pos := "l04_field.go:108", after := #[{ on := 1, ground := .data }, { on := 2, ground := .data }, { on := 1, ground := .chain }], guard := none }) rfl (fun K hK => ?_) AllReadyH.nil)
 go_simp
 refine (HTK.out _).mono ?_
 rintro e w2 ⟨rfl, hb2⟩
 replace EE' := EE'.go hb2
 go_wp2_with fail
 refine hK.out _ _ EE'.both (fun hHeld => ?_)
 clear hK K hb2
 refine wpAnyH_ready (rs := [4]) (by kernel_rfl) (by simp) (AllReadyH.cons (o := { dst := some 9, op := .call { callee := .value (.func 116), args := #[.tmp 5, .tmp 8], argTypes := #[80, 80] }, type := 80, pos := "l04_field.go:108", after := #[{ on := 0, ground := .data }, { on := 3, ground := .data }, { on := 3, ground := .chain }], guard := none }) rfl (fun K hK => ?_) AllReadyH.nil)
 go_simp
 refine (HAD.out _).mono ?_
 rintro e w3 ⟨rfl, hb3⟩
 replace EE' := EE'.go hb3
 go_wp2_with fail
 refine hK.out _ _ EE'.both (fun hHeld => ?_)
 have hA5 : Arr (w3.setCells (w.heap.size + 1 + 1) 0 (I64 R)) (w.heap.size + 1 + 1) 80 (I64 R) := Arr.setCells0 EE'.pr (by simp [hRl])
 have hB5 : Below w.heap.size w (w3.setCells (w.heap.size + 1 + 1) 0 (I64 R)) := setCells_below (by omega) _ _ EE'.fr
 have hS5 : (w3.setCells (w.heap.size + 1 + 1) 0 (I64 R)).rangeAt w.heap.size 0 (I64 a) ∧ (w3.setCells (w.heap.size + 1 + 1) 0 (I64 R)).rangeAt (w.heap.size + 1) 0 (I64 b) := ⟨arr_range (Arr.setCellsO (by omega) _ _ EE'.pa), arr_range (Arr.setCellsO (by omega) _ _ EE'.pb)⟩
 have hth : w3.there (w.heap.size + 1 + 1) 0 (I64 R).toArray.size := by have := arr_there EE'.pr; simpa [hRl] using this
 have hir : (Tryz.prog.info? 80).map (·.size) = some (I64 R).toArray.size := by simpa [hRl] using infoE
 refine wpAnyH_ready (rs := [5]) (by kernel_rfl) (by simp) (AllReadyH.cons (o := { dst := none, op := .store 80 (.tmp 4) (.tmp 9), type := 0, pos := "l04_field.go:108", after := #[{ on := 4, ground := .data }, { on := 4, ground := .chain }, { on := 0, ground := .phase }, { on := 1, ground := .phase }, { on := 2, ground := .phase }, { on := 3, ground := .phase }, { on := 4, ground := .phase }], guard := none }) rfl (fun K hK => ?_) AllReadyH.nil)
 rw [if_pos (by rfl)]
 refine wp_store_mid _ _ _ rfl _ _ (I64 R).toArray rfl rfl hth hir (all_oneCell_toArray hone) ?_
 simp only [Act.put]
 refine hK.out _ _ hS5 (fun hHeld => ?_)
 clear hK K
 refine wpAnyH_done (by kernel_rfl) ?_ _
 go_wp2
 exact bodyPost_ret (results_cell_row rfl _ _ (w.heap.size + 1 + 1) 80 (I64 R).toArray (0, 0) _ rfl hA5 Tryz.underlying80 rfl (by simpa [hRl] using infoE)) rfl ⟨rfl, hB5⟩
theorem red_mulr (x y : Int) : red (val (red x) * val (red y)) = red (x * y) := by
 rw [val_red, val_red, red, red, ← Int.mul_emod]
theorem red_mull (x y : Int) : red (val (red x) * y) = red (x * y) := by
 rw [val_red, red, red, Int.mul_emod, Int.emod_emod, ← Int.mul_emod]
theorem lim_one : lim 16 1 = red 1 := by decide
theorem bit_low (x r : Nat) (h : r < 16) : x % 65536 / 2 ^ r % 2 = x / 2 ^ r % 2 := by
 have : r = 0 ∨ r = 1 ∨ r = 2 ∨ r = 3 ∨ r = 4 ∨ r = 5 ∨ r = 6 ∨ r = 7 ∨ r = 8 ∨ r = 9 ∨ r = 10 ∨ r = 11 ∨ r = 12 ∨ r = 13 ∨ r = 14 ∨ r = 15 := by omega
 rcases this with rfl | rfl | rfl | rfl | rfl | rfl | rfl | rfl | rfl | rfl | rfl | rfl | rfl | rfl | rfl | rfl <;> omega
theorem bit_at {n : List Int} (hl : n.length = 16) (hm : Lm n) (j : Nat) (hj : j < 256) : n.getD (j / 16) 0 / 2 ^ (j % 16) % 2 = (((val n).toNat / 2 ^ j % 2 : Nat) : Int) := by
 have h0 := val_nonneg (fun x hx => (hm x hx).1)
 have h1 := lim_val n hm
 rw [hl] at h1
 obtain ⟨N, hN⟩ := Int.eq_ofNat_of_zero_le h0
 have h2 := lim_get 16 (val n) (j / 16) (by omega)
 rw [h1, hN] at h2
 rw [h2, hN, Int.toNat_natCast]
 have h3 : N / 65536 ^ (j / 16) % 65536 / 2 ^ (j % 16) % 2 = N / 2 ^ j % 2 := by
  rw [bit_low _ _ (by omega), show 65536 = 2 ^ 16 from rfl, ← Nat.pow_mul, Nat.div_div_eq_div_mul, ← Nat.pow_add, Nat.div_add_mod]
 rw [← h3]
 simp only [Int.natCast_ediv, Int.natCast_emod, Int.natCast_pow]
 rfl
theorem pow_bit (x : Int) (N j : Nat) : x ^ (N / 2 ^ j) = x ^ (N / 2 ^ (j + 1)) * x ^ (N / 2 ^ (j + 1)) * x ^ (N / 2 ^ j % 2) := by
 rw [← Int.pow_add, ← Int.pow_add]
 congr 1
 rw [Nat.pow_succ, ← Nat.div_div_eq_div_mul]
 omega

theorem i64_low1 {x : Int} (h0 : 0 ≤ x) (h1 : x < 9223372036854775808) : bits .and .i64 x 1 = x % 2 :=
 bits_mask .i64 63 (by decide) (fun n a b => by rw [IntKind.wrap_i64]; omega) 1 (by decide) x h0 h1
structure EP (w W : World) (E : Nat) (a n r : List Int) : Prop where
 fr : Below w.heap.size w W
 pa : Arr W w.heap.size 80 (I64 a)
 pn : Arr W (w.heap.size + 1) 80 (I64 n)
 pz : Arr W (w.heap.size + 2) 80 (I64 Z16)
 pr : Arr W E 80 (I64 r)
 lt : w.heap.size + 2 < E
theorem EP.go {w A B : World} {E : Nat} {a n r : List Int} (h : EP w A E a n r) (hb : Below A.heap.size A B) : EP w B E a n r := ⟨h.fr.trans (hb.mono h.fr.size), h.pa.kept hb, h.pn.kept hb, h.pz.kept hb, h.pr.kept hb, h.lt⟩
theorem EP.put {w W : World} {E : Nat} {a n r : List Int} (h : EP w W E a n r) (s : List Int) : EP w (W.setRow E (I64 s).toArray) E a n s :=
 ⟨setRow_below h.fr E _ (by have := h.lt; omega), h.pa.rowOther E _ (by have := h.lt; omega), h.pn.rowOther E _ (by have := h.lt; omega), h.pz.rowOther E _ (by have := h.lt; omega), h.pr.row _, h.lt⟩

set_option maxHeartbeats 2000000 in
theorem specPow (a n : List Int) (w : World) (ha : a.length = 16) (hn : n.length = 16) (la : Lm a) (ln : Lm n) :
  Calls Tryz.prog 138 #[.agg (I64 a).toArray, .agg (I64 n).toArray] w fun e w' => e = .returned (.agg (I64 (red (val a ^ (val n).toNat))).toArray) ∧ Below w.heap.size w w' := by
 have hbit := bit_at hn ln
 have hN : (val n).toNat < 2 ^ 256 := by
  have h1 := val_lt ln
  have h0 := val_nonneg (fun x hx => (ln x hx).1)
  rw [hn, p256] at h1
  omega
 obtain ⟨N, hNN⟩ : ∃ N, N = (val n).toNat := ⟨_, rfl⟩
 rw [← hNN] at hbit hN ⊢
 obtain ⟨F, hF⟩ : ∃ F : Nat → List Int, ∀ m, F m = red (val a ^ (N / 2 ^ m)) := ⟨fun m => red (val a ^ (N / 2 ^ m)), fun _ => rfl⟩
 have HL : Hid (∀ m, (F m).length = 16 ∧ Lm (F m)) := by unfold Hid; intro m; rw [hF]; exact ⟨red_len _, red_lm _⟩
 have H256 : Hid (F 256 = red 1) := by unfold Hid; rw [hF, Nat.div_eq_of_lt hN, Int.pow_zero]
 have H1 : Hid (∀ j, j < 256 → n.getD (j / 16) 0 / 2 ^ (j % 16) % 2 = 1 → red (val (red (val (F (j + 1)) * val (F (j + 1)))) * val a) = F j) := by
  unfold Hid
  intro j hj hb
  have h2 := hbit j hj
  rw [hb] at h2
  rw [hF, hF, red_mulr, red_mull, pow_bit (val a) N j, show N / 2 ^ j % 2 = 1 by omega, Int.pow_one]
 have H0 : Hid (∀ j, j < 256 → n.getD (j / 16) 0 / 2 ^ (j % 16) % 2 ≠ 1 → red (val (F (j + 1)) * val (F (j + 1))) = F j) := by
  unfold Hid
  intro j hj hb
  have h2 := hbit j hj
  rw [hF, hF, red_mulr, pow_bit (val a) N j, show N / 2 ^ j % 2 = 0 by omega, Int.pow_zero, Int.mul_one]
 have hres : red (val a ^ N) = F 0 := by rw [hF, Nat.pow_zero, Nat.div_one]
 rw [hres]
 clear hres hF hbit hN hNN
 obtain ⟨A, hA⟩ : ∃ A, A = (I64 a).toArray := ⟨_, rfl⟩
 obtain ⟨B, hB⟩ : ∃ B, B = (I64 n).toArray := ⟨_, rfl⟩
 rw [← hA, ← hB]
 obtain ⟨W, hW⟩ : ∃ W, W = ((w.alloc (.cells A 80)).alloc (.cells B 80)).alloc (.cells zV 80) := ⟨_, rfl⟩
 have g0 : Arr W w.heap.size 80 (I64 a) := by rw [hW, hA]; exact ((Arr.new w (I64 a) _).alloc _).alloc _
 have g1 : Arr W (w.heap.size + 1) 80 (I64 n) := by
  rw [hW, hB]
  have := (Arr.new (w.alloc (.cells A 80)) (I64 n) 80).alloc (.cells (I64 Z16).toArray 80)
  rw [World.size_alloc] at this
  exact this
 have g2 : Arr W (w.heap.size + 2) 80 (I64 Z16) := by
  rw [hW]
  have := Arr.new ((w.alloc (.cells A 80)).alloc (.cells B 80)) (I64 Z16) 80
  rw [World.size_alloc, World.size_alloc] at this
  exact this
 have gB : Below w.heap.size w W := by rw [hW]; exact (((Below.refl _ _).alloc (Nat.le_refl _) _).alloc (by simp) _).alloc (by simp; omega) _
 clear hA hB
 go_enter Tryz.func138, Tryz.ntmps138
 go_wp2_with fail
 rw [← hW]
 clear hW
 refine (specSmall 1 _ (by omega) (by omega)).mono ?_
 rintro e w1 ⟨rfl, hb1⟩
 rw [lim_one]
 obtain ⟨R0, hR0⟩ : ∃ R, R = red 1 := ⟨_, rfl⟩
 have hRl : R0.length = 16 := by rw [hR0]; exact red_len _
 rw [← hR0]
 have HR0 : Hid _ := hR0
 clear hR0
 have hsz := (g2.kept hb1).lt
 have EE : EP w (w1.alloc (.cells (I64 Z16).toArray 80)) w1.heap.size a n Z16 := ⟨(gB.trans (hb1.mono gB.size)).alloc (gB.trans (hb1.mono gB.size)).size _, (g0.kept hb1).alloc _, (g1.kept hb1).alloc _, (g2.kept hb1).alloc _, Arr.new _ _ _, hsz⟩
 clear g0 g1 g2 gB hb1 hsz
 have hpr : Arr (w1.alloc (.cells zV 80)) w1.heap.size 80 (I64 Z16) := EE.pr
 have EE' := EE.put R0
 clear EE
 obtain ⟨E, hE⟩ : ∃ E, E = w1.heap.size := ⟨_, rfl⟩
 obtain ⟨W2, hW2⟩ : ∃ W2, W2 = w1.alloc (.cells (I64 Z16).toArray 80) := ⟨_, rfl⟩
 rw [← hE, ← hW2] at EE'
 go_wp2_with (refine wpList_store_row rfl 80 _ _ rfl w1.heap.size (I64 R0).toArray rfl rfl 80 _ hpr (by simpa [hRl] using infoE) (by simp [hRl]) (by simp [Value.oneCell']) ?_)
 rw [← hE, show w1.alloc (.cells zV 80) = W2 from hW2.symm]
 clear hpr hE hW2
 go_loopw [6] (fun i wr => ∃ (m : Nat) (z : Int), m ≤ 256 ∧ z = (m : Int) - 1 ∧ i = .int .i64 z ∧ EP w wr E a n (F m)) (fun i _ => (intOf i + 1).toNat)
 case atStart => exact ⟨256, 255, by omega, rfl, rfl, by rw [H256.out, ← HR0.out]; exact EE'⟩
 case round =>
  clear EE'
  obtain ⟨m, z, hm, hz, rfl, EE⟩ := hrel
  obtain ⟨R, hR⟩ : ∃ R, R = F m := ⟨_, rfl⟩
  rw [← hR] at EE
  have hRL : R.length = 16 := by rw [hR]; exact (HL.out m).1
  have hRM : Lm R := by rw [hR]; exact (HL.out m).2
  have HR : Hid _ := hR
  clear hR
  by_cases hm0 : m = 0
  ·have hz0 : z < 0 := by omega
   have hz1 : ¬ (0 ≤ z) := by omega
   have HRR : Hid (R = F 0) := by unfold Hid; rw [HR.out, hm0]
   have hpr := EE.pr
   have hpz := EE.pz
   have hp2 := hpz.row (I64 R)
   have hb2 := setRow_below EE.fr (w.heap.size + 2) (I64 R).toArray (by omega)
   clear HR hz hm0 EE
   go_wp2_with (first
    | (refine wpList_load_row rfl 80 _ rfl E rfl 80 (I64 R).toArray (0, 0) _ hpr Tryz.underlying80 rfl (by simpa [hRL] using infoE) ?_)
    | (refine wpList_store_row rfl 80 _ _ rfl (w.heap.size + 2) (I64 R).toArray rfl rfl 80 _ hpz (by simpa [hRL] using infoE) (by simp [hRL]) (by simp [Value.oneCell']) ?_))
   exact bodyPost_ret (results_cell_row rfl _ _ (w.heap.size + 2) 80 (I64 R).toArray (0, 0) _ rfl hp2 Tryz.underlying80 rfl (by simpa [hRL] using infoE)) rfl ⟨by rw [HRR.out], hb2⟩
  ·obtain ⟨j, rfl⟩ : ∃ j, m = j + 1 := ⟨m - 1, by omega⟩
   obtain rfl : z = (j : Int) := by omega
   clear hz hm0
   have hpr := EE.pr
   go_wp2_with (refine wpList_load_row rfl 80 _ rfl E rfl 80 (I64 R).toArray (0, 0) _ hpr Tryz.underlying80 rfl (by simpa [hRL] using infoE) ?_)
   refine (specMul16 R R _ hRL hRL hRM hRM).mono ?_
   rintro e w2 ⟨rfl, hb2⟩
   replace EE := EE.go hb2
   clear hpr hb2
   obtain ⟨S, hS⟩ : ∃ S, S = red (val R * val R) := ⟨_, rfl⟩
   have hSL : S.length = 16 := by rw [hS]; exact red_len _
   have hSM : Lm S := by rw [hS]; exact red_lm _
   rw [← hS]
   have HS : Hid _ := hS
   clear hS
   have hpr := EE.pr
   replace EE := EE.put S
   obtain ⟨x, hx⟩ : ∃ x, x = n.getD (j / 16) 0 := ⟨_, rfl⟩
   have hcx := EE.pn.i64 (j / 16) (by omega)
   rw [← hx] at hcx
   have hj16 : ((j : Int) / 16).toNat = j / 16 := by omega
   have hxb := gD_lm ln (j / 16)
   rw [← hx] at hxb
   have HX : Hid _ := hx
   clear hx
   have hj0 : (0 : Int) ≤ (j : Int) := by omega
   have hj1 : (j : Int) / 16 < 16 := by omega
   have hj2 : (0 : Int) ≤ (j : Int) / 16 := by omega
   have hy0 : 0 ≤ x / 2 ^ (j % 16) := Int.ediv_nonneg hxb.1 (Int.le_of_lt (Int.pow_pos (by omega)))
   have hy1 : x / 2 ^ (j % 16) ≤ x := Int.ediv_le_self _ hxb.1
   have hand : bits .and .i64 (x / 2 ^ (j % 16)) 1 = x / 2 ^ (j % 16) % 2 := i64_low1 hy0 (by omega)
   have hpS := EE.pr
   have hpA := EE.pa
   have hlt := EE.lt
   by_cases hbt : x / 2 ^ (j % 16) % 2 = 1
   ·have HF : Hid (red (val S * val a) = F j) := by
     unfold Hid
     rw [HS.out, HR.out]
     exact H1.out j (by omega) (by rw [← HX.out]; exact hbt)
    go_wp2_with (first
     | (refine wpList_store_row rfl 80 _ _ rfl E (I64 S).toArray rfl rfl 80 _ hpr (by simpa [hSL] using infoE) (by simp [hSL, hRL]) (by simp [Value.oneCell']) ?_)
     | (refine wpList_load_row rfl 80 _ rfl E rfl 80 (I64 S).toArray (0, 0) _ hpS Tryz.underlying80 rfl (by simpa [hSL] using infoE) ?_)
     | (refine wpList_load_row rfl 80 _ rfl w.heap.size rfl 80 (I64 a).toArray (0, 0) _ hpA Tryz.underlying80 rfl (by simpa [ha] using infoE) ?_))
    refine (specMul16 S a _ hSL ha hSM la).mono ?_
    rintro e w3 ⟨rfl, hb3⟩
    replace EE := EE.go hb3
    rw [HF.out]
    obtain ⟨T, hT⟩ : ∃ T, T = F j := ⟨_, rfl⟩
    have hTL : T.length = 16 := by rw [hT]; exact (HL.out j).1
    rw [← hT]
    have HT : Hid _ := hT
    clear hT hpr hpS hpA hb3 hcx hbt hand
    have hpr := EE.pr
    replace EE := EE.put T
    rw [HT.out] at EE
    have HE : Hid _ := EE
    rw [← HT.out] at HE
    clear EE
    go_wp2_with (refine wpList_store_row rfl 80 _ _ rfl E (I64 T).toArray rfl rfl 80 _ hpr (by simpa [hTL] using infoE) (by simp [hTL, hSL]) (by simp [Value.oneCell']) ?_)
    clear hpr
    go_roundw
    case rel => exact ⟨j, (j : Int) - 1, by omega, rfl, by go_num, HT.out ▸ HE.out⟩
    case measure => simp [intOf]
   ·have HF : Hid (S = F j) := by
     unfold Hid
     rw [HS.out, HR.out]
     exact H0.out j (by omega) (by rw [← HX.out]; exact hbt)
    go_wp2_with (refine wpList_store_row rfl 80 _ _ rfl E (I64 S).toArray rfl rfl 80 _ hpr (by simpa [hSL] using infoE) (by simp [hSL, hRL]) (by simp [Value.oneCell']) ?_)
    clear hpr hpS hpA
    go_roundw
    case rel => exact ⟨j, (j : Int) - 1, by omega, rfl, by go_num, HF.out ▸ EE⟩
    case measure => simp [intOf]
structure E2 (w W : World) (a : List Int) : Prop where
  fr : Below w.heap.size w W
  pa : Arr W w.heap.size 80 (I64 a)
  pr : Arr W (w.heap.size + 1) 80 (I64 Z16)
theorem E2.go {w A B : World} {a : List Int} (h : E2 w A a) (hb : Below A.heap.size A B) : E2 w B a := ⟨h.fr.trans (hb.mono h.fr.size), h.pa.kept hb, h.pr.kept hb⟩
theorem E2.one {w W : World} {a : List Int} (h : E2 w W a) : W.rangeAt w.heap.size 0 (I64 a) := arr_range h.pa
theorem E2.new (w : World) (a : List Int) : E2 w ((w.alloc (.cells (I64 a).toArray 80)).alloc (.cells (I64 Z16).toArray 80)) a := by
  refine ⟨((Below.refl _ _).alloc (Nat.le_refl _) _).alloc (by simp) _, (Arr.new w (I64 a) _).alloc _, ?_⟩
  have := Arr.new (w.alloc (.cells (I64 a).toArray 80)) (I64 Z16) 80
  rw [World.size_alloc] at this
  exact this

theorem two_len : (lim 16 2).length = 16 := lim_len _ _
theorem tk_two : (tk16 PL (lim 16 2)).length = 16 ∧ Lm (tk16 PL (lim 16 2)) ∧ (val (tk16 PL (lim 16 2))).toNat = eInv := by
  have htk : tk16 PL (lim 16 2) = lim 16 (P25519 - 2) := by
    rw [tk16_lim PL_len two_len, PL_val, val_lim]
    rfl
  rw [htk]
  exact ⟨lim_len _ _, lim_lm _ _, by rw [val_lim]; rfl⟩

def invF (a : List Int) : List Int := red (val a ^ eInv)

set_option maxHeartbeats 2000000 in
theorem specInv (a : List Int) (w : World) (ha : a.length = 16) (la : Lm a) :
    Calls Tryz.prog 115 #[.agg (I64 a).toArray] w fun e w' => e = .returned (.agg (I64 (invF a)).toArray) ∧ Below w.heap.size w w' := by
  obtain ⟨tl, tm, tv⟩ := tk_two
  obtain ⟨R, hR⟩ : ∃ R, R = invF a := ⟨_, rfl⟩
  have hRl : R.length = 16 := by rw [hR]; exact red_len _
  have HSM : Hid (∀ Z, Calls Tryz.prog 96 #[.int .i64 2] Z fun e w' => e = .returned (.agg (I64 (lim 16 2)).toArray) ∧ Below Z.heap.size Z w') := by
    unfold Hid; intro Z; exact specSmall 2 Z (by omega) (by omega)
  have HTK : Hid (∀ Z, Calls Tryz.prog 120 #[.agg (I64 PL).toArray, .agg (I64 (lim 16 2)).toArray] Z fun e w' => e = .returned (.agg (I64 (tk16 PL (lim 16 2))).toArray) ∧ Below Z.heap.size Z w') := by
    unfold Hid; intro Z; exact specTake PL _ Z PL_len two_len PL_lm (lim_lm _ _)
  have HPW : Hid (∀ Z, Calls Tryz.prog 138 #[.agg (I64 a).toArray, .agg (I64 (tk16 PL (lim 16 2))).toArray] Z fun e w' => e = .returned (.agg (I64 R).toArray) ∧ Below Z.heap.size Z w') := by
    unfold Hid; intro Z
    have := specPow a _ Z ha tl la tm
    rw [tv] at this
    rw [hR]
    exact this
  obtain ⟨D, hD⟩ : ∃ D, D = lim 16 2 := ⟨_, rfl⟩
  obtain ⟨T, hT⟩ : ∃ T, T = tk16 PL D := ⟨_, rfl⟩
  rw [← hD] at HSM HTK HPW
  rw [← hT] at HTK HPW
  obtain ⟨L, hL⟩ : ∃ L, L = PL := ⟨_, rfl⟩
  have HPR : Hid (∀ Z, Calls Tryz.prog 112 #[] Z fun e w' => e = .returned (.agg (I64 L).toArray) ∧ Below Z.heap.size Z w') := by
    unfold Hid; intro Z; rw [hL]; exact specPrime Z
  rw [← hL] at HTK
  rw [← hR]
  obtain ⟨A, hA⟩ : ∃ A, A = (I64 a).toArray := ⟨_, rfl⟩
  obtain ⟨W, hW⟩ : ∃ W, W = (w.alloc (.cells A 80)).alloc (.cells zV 80) := ⟨_, rfl⟩
  have EE : E2 w W a := by rw [hW, hA]; exact E2.new w a
  have EE' : E2 w W.drew a := EE.go (Below.refl _ _).drew
  rw [← hA]
  have hone : ∀ v ∈ I64 R, v.oneCell' = true := by
    intro v hv
    obtain ⟨x, _, rfl⟩ := List.mem_map.1 hv
    rfl
  have hu : Tryz.prog.underlying 80 = some (.array 16 3) := Tryz.underlying80
  have hia : (Tryz.prog.info? 80).map (·.size) = some (I64 a).length := by simpa [ha] using infoE
  have hir : (Tryz.prog.info? 80).map (·.size) = some (I64 R).length := by simpa [hRl] using infoE
  clear hA hR hD hT hL tl tm tv EE ha la
  go_enter Tryz.func115, Tryz.ntmps115
  go_wp2
  rw [← hW]
  clear hW
  go_region_held3 (fun W => W.rangeAt w.heap.size 0 (I64 a))
    (first
      | exact EE'.one
      | exact hS5)
    ((first
      | (go_at_call 112; refine (HPR.out _).mono ?_; rintro e w1 ⟨rfl, hb1⟩; replace EE' := EE'.go hb1; clear hb1)
      | (go_at_call 96; refine (HSM.out _).mono ?_; rintro e w2 ⟨rfl, hb2⟩; replace EE' := EE'.go hb2; clear hb2)
      | (go_at_call 120; refine (HTK.out _).mono ?_; rintro e w3 ⟨rfl, hb3⟩; replace EE' := EE'.go hb3; clear hb3)
      | (go_at_call 138; refine (HPW.out _).mono ?_; rintro e w4 ⟨rfl, hb4⟩; replace EE' := EE'.go hb4; clear hb4; have hth : w4.there (w.heap.size + 1) 0 (I64 R).length := (by simpa [hRl] using arr_there EE'.pr); have hS5 : (w4.setCells (w.heap.size + 1) 0 (I64 R)).rangeAt w.heap.size 0 (I64 a) := arr_range (Arr.setCellsO (by omega) _ _ EE'.pa))))
  all_goals
    have hA5 : Arr (w4.setCells (w.heap.size + 1) 0 (I64 R)) (w.heap.size + 1) 80 (I64 R) := Arr.setCells0 EE'.pr (by simp [hRl])
    have hB5 : Below w.heap.size w (w4.setCells (w.heap.size + 1) 0 (I64 R)) := setCells_below (by omega) _ _ EE'.fr
    go_wp2
    exact bodyPost_ret (results_cell_row rfl _ _ (w.heap.size + 1) 80 (I64 R).toArray (0, 0) _ rfl hA5 Tryz.underlying80 rfl (by simpa [hRl] using infoE)) rfl ⟨rfl, hB5⟩
set_option maxHeartbeats 4000000

structure E4 where
 a : List Int
 b : List Int
 c : List Int
 t : List Int
def E4.cells (P : E4) : List Int := P.a ++ P.b ++ P.c ++ P.t
structure E4.Ok (P : E4) : Prop where
 a : feOk P.a = true
 b : feOk P.b = true
 c : feOk P.c = true
 t : feOk P.t = true
theorem feOk_len {l : List Int} (h : feOk l = true) : l.length = 16 := ((feOk_iff l).1 h).1
theorem feOk_lm' {l : List Int} (h : feOk l = true) : Lm l := ((feOk_iff l).1 h).2.1
theorem E4.len {P : E4} (h : P.Ok) : P.cells.length = 64 := by
 unfold E4.cells
 simp [feOk_len h.a, feOk_len h.b, feOk_len h.c, feOk_len h.t]
theorem infoP6 : (Tryz.prog.info? 86).map (·.size) = some 64 := by kernel_rfl
theorem build_p6 {a b c t : List Int} (ha : a.length = 16) (hb : b.length = 16) (hc : c.length = 16) (ht : t.length = 16) (w : World) : (Instr.build 86 #[(0, .agg (I64 a).toArray), (1, .agg (I64 b).toArray), (2, .agg (I64 c).toArray), (3, .agg (I64 t).toArray)]).run Tryz.prog w = .ok (.agg (I64 (a ++ b ++ c ++ t)).toArray) w := by
 obtain ⟨a0, a1, a2, a3, a4, a5, a6, a7, a8, a9, a10, a11, a12, a13, a14, a15, rfl⟩ := list16 ha
 obtain ⟨b0, b1, b2, b3, b4, b5, b6, b7, b8, b9, b10, b11, b12, b13, b14, b15, rfl⟩ := list16 hb
 obtain ⟨c0, c1, c2, c3, c4, c5, c6, c7, c8, c9, c10, c11, c12, c13, c14, c15, rfl⟩ := list16 hc
 obtain ⟨t0, t1, t2, t3, t4, t5, t6, t7, t8, t9, t10, t11, t12, t13, t14, t15, rfl⟩ := list16 ht
 kernel_rfl
theorem yieldsIf_p6 {ops : Array Oper} {S : World → Prop} {op : Oper} {act : Act} (hw : Region.wanted op (yielded ops act.tmps) = true) (x y z u : Operand) (ho : op.op = .build 86 #[(0, x), (1, y), (2, z), (3, u)]) (P : E4) (hP : P.Ok)
  (hx : act.eval x = .agg (I64 P.a).toArray) (hy : act.eval y = .agg (I64 P.b).toArray) (hz : act.eval z = .agg (I64 P.c).toArray) (hu : act.eval u = .agg (I64 P.t).toArray) : YieldsIf Tryz.prog ops S op (.agg (I64 P.cells).toArray) act :=
 .inl ⟨hw, fun w _ => by
  unfold execOp
  simp only [ho, hx, hy, hz, hu, Sem.run_bind, List.map_toArray, List.map_cons, List.map_nil, build_p6 (feOk_len hP.a) (feOk_len hP.b) (feOk_len hP.c) (feOk_len hP.t) w, Sem.run_pure, Result.andThen_ok]
  rfl⟩
theorem range_part {W : World} {g : Nat} {t : TypeId} {p q r : List Int} {n : Nat} (h : Arr W g t (I64 (p ++ q ++ r))) (hp : p.length = n) : W.rangeAt g n (I64 q) := by
 intro j v hj
 rw [h.cell (n + j)]
 have hjl := (List.getElem?_eq_some_iff.1 hj).1
 simp only [List.length_map] at hjl
 simp only [I64, List.map_append]
 rw [List.append_assoc, List.getElem?_append_right (by simp [hp]), List.length_map, hp, Nat.add_sub_cancel_left, List.getElem?_append_left (by simpa using hjl)]
 exact hj
theorem E4.ra {W : World} {g : Nat} {t : TypeId} {P : E4} (h : Arr W g t (I64 P.cells)) : W.rangeAt g 0 (I64 P.a) :=
 range_part (p := []) (q := P.a) (r := P.b ++ P.c ++ P.t) (by simpa [E4.cells] using h) rfl
theorem E4.rb {W : World} {g : Nat} {t : TypeId} {P : E4} (hP : P.Ok) (h : Arr W g t (I64 P.cells)) : W.rangeAt g 16 (I64 P.b) :=
 range_part (p := P.a) (q := P.b) (r := P.c ++ P.t) (by simpa [E4.cells] using h) (feOk_len hP.a)
theorem E4.rc {W : World} {g : Nat} {t : TypeId} {P : E4} (hP : P.Ok) (h : Arr W g t (I64 P.cells)) : W.rangeAt g 32 (I64 P.c) :=
 range_part (p := P.a ++ P.b) (q := P.c) (r := P.t) (by simpa [E4.cells] using h) (by simp [feOk_len hP.a, feOk_len hP.b])
theorem E4.rt {W : World} {g : Nat} {t : TypeId} {P : E4} (hP : P.Ok) (h : Arr W g t (I64 P.cells)) : W.rangeAt g 48 (I64 P.t) :=
 range_part (p := P.a ++ P.b ++ P.c) (q := P.t) (r := []) (by simpa [E4.cells] using h) (by simp [feOk_len hP.a, feOk_len hP.b, feOk_len hP.c])
def DL : List Int := [30883, 4953, 19914, 30187, 55467, 16705, 2637, 112, 59544, 30585, 16505, 36039, 65139, 11119, 27886, 20995]
def BX : List Int := [54554, 36645, 11616, 51542, 42930, 38181, 51040, 26924, 56412, 64982, 57905, 49316, 21502, 52590, 14035, 8553]
def BY : List Int := [26200, 26214, 26214, 26214, 26214, 26214, 26214, 26214, 26214, 26214, 26214, 26214, 26214, 26214, 26214, 26214]
theorem DL_ok : feOk DL = true := by decide
theorem BX_ok : feOk BX = true := by decide
theorem BY_ok : feOk BY = true := by decide
def mk6 (x y : List Int) : E4 := ⟨x, y, lim 16 1, red (val x * val y)⟩
theorem ok_red (v : Int) : feOk (red v) = true := (feOk_iff _).2 ⟨red_len v, red_lm v, by rw [val_red]; exact (red_lt v).2⟩
theorem one_ok : feOk (lim 16 1) = true := by decide
theorem zero_ok : feOk (lim 16 0) = true := by decide
theorem mk6_ok {x y : List Int} (hx : feOk x = true) (hy : feOk y = true) : (mk6 x y).Ok := ⟨hx, hy, one_ok, ok_red _⟩
def add6 (P Q : E4) : E4 :=
 let a := red (val (red (val P.b - val P.a)) * val (red (val Q.b - val Q.a)))
 let b := red (val (red (val P.b + val P.a)) * val (red (val Q.b + val Q.a)))
 let c := red (val (red (val P.t * val Q.t)) * val (red (val DL + val DL)))
 let d := red (val P.c * val (red (val Q.c + val Q.c)))
 let e := red (val b - val a)
 let f := red (val d - val c)
 let g := red (val d + val c)
 let h := red (val b + val a)
 ⟨red (val e * val f), red (val g * val h), red (val f * val g), red (val e * val h)⟩
theorem add6_ok (P Q : E4) : (add6 P Q).Ok := ⟨ok_red _, ok_red _, ok_red _, ok_red _⟩
def neg6 (P : E4) : E4 := ⟨red (val (lim 16 0) - val P.a), P.b, P.c, red (val (lim 16 0) - val P.t)⟩
def flx (P : E4) : List Int := red (val P.a * val (invF P.c))
def fly (P : E4) : List Int := red (val P.b * val (invF P.c))
end Go.Proofs.YtihoaakbkffejaaGreatDoor
namespace Go.Proofs.YtihoaakbkffejaaGreatDoor
open Go.RowKit
set_option linter.unusedSimpArgs false

theorem grown_set {w0 w : World} {g : Nat} (h : w0.grownBy w (some g)) (j : Nat) (v : Value) : w0.grownBy (w.setCell ⟨g, j, none⟩ v) (some g) :=
 ⟨h.os, h.tape, h.output, by simpa using h.size, fun i hi hne => (heap_setCell_other _ _ _ _ (fun e => hne (by rw [e]))).trans (h.block i hi hne)⟩

theorem grown_set8 {w0 w : World} {g : Nat} (h : w0.grownBy w (some g)) (l0 l1 l2 l3 l4 l5 l6 l7 : Value) :
  w0.grownBy ((((((((w.setCell ⟨g, 0, none⟩ l0).setCell ⟨g, 1, none⟩ l1).setCell ⟨g, 2, none⟩ l2).setCell ⟨g, 3, none⟩ l3).setCell ⟨g, 4, none⟩ l4).setCell ⟨g, 5, none⟩ l5).setCell ⟨g, 6, none⟩ l6).setCell ⟨g, 7, none⟩ l7) (some g) :=
 grown_set (grown_set (grown_set (grown_set (grown_set (grown_set (grown_set (grown_set h 0 l0) 1 l1) 2 l2) 3 l3) 4 l4) 5 l5) 6 l6) 7 l7

theorem grown_of_below {w w' : World} (h : Below w.heap.size w w') (r : Option Nat) : w.grownBy w' r := ⟨h.os, h.tape, h.output, h.size, fun i hi _ => h.block i hi⟩

theorem index_arr {P : Program} {t e : TypeId} {n : Nat} {K : IntKind} (hu : P.underlying t = some (.array n e)) (he : P.underlying e = some (.int K)) (hs : (P.info? e).map (·.size) = some 1) (xs : List Int) (hl : xs.length = n) (k : Nat) (hk : k < n) (w : World) :
  (Instr.index t (.agg (xs.map (Value.int K)).toArray) (.int .i64 (k : Int))).run P w = .ok (.int K (xs.getD k 0)) w := by
 cases hq : P.info? e with
 | none => simp [hq] at hs
 | some i =>
  have hz : i.size = 1 := by simpa [hq] using hs
  have hk' : (k : Int) < (n : Int) := by omega
  have hkx : k < xs.length := by omega
  simp [Instr.index, run_underlying hu, run_underlying he, asIntOf, part, isAgg, sizeOf, typeInfo, hq, hz, hk', hkx, go_sem]
  intro h
  omega

theorem grown_drew {w w' : World} {r : Option Nat} (h : w.grownBy w' r) : w.grownBy w'.drew r := ⟨h.os, h.tape, h.output, h.size, h.block⟩
def Vr (w : World) (g : Nat) (cs : List Value) : Prop := ∃ t z, w.heap[g]? = some (.cells cs.toArray t z)
theorem Vr.lt {w : World} {g : Nat} {cs : List Value} (h : Vr w g cs) : g < w.heap.size := by
 obtain ⟨t, z, h⟩ := h
 exact (Array.getElem?_eq_some_iff.1 h).1
theorem Vr.below {w w' : World} {B g : Nat} {cs : List Value} (h : Vr w g cs) (hb : Below B w w') (hg : g < B) : Vr w' g cs := by
 obtain ⟨t, z, h⟩ := h
 exact ⟨t, z, (hb.block g hg).trans h⟩
theorem Vr.kept {w w' : World} {g : Nat} {cs : List Value} (h : Vr w g cs) (hb : Below w.heap.size w w') : Vr w' g cs := h.below hb h.lt
theorem Vr.cell {w : World} {g : Nat} {cs : List Value} (h : Vr w g cs) (j : Nat) : w.cell? ⟨g, j, none⟩ = cs[j]? := by
 obtain ⟨t, z, h⟩ := h
 rw [cell_of_row w g j _ t _ h]; simp
theorem Vr.int {w : World} {g : Nat} {K : IntKind} {xs : List Int} (h : Vr w g (xs.map (Value.int K))) (j : Nat) (hj : j < xs.length) : w.cell? ⟨g, j, none⟩ = some (.int K (xs.getD j 0)) := by
 rw [h.cell j]; simp [hj]

def setAll (w : World) (g : Nat) : Nat → List Value → World
 | _, [] => w
 | j, v :: vs => setAll (w.setCell ⟨g, j, none⟩ v) g (j + 1) vs
def setL (cs : List Value) : Nat → List Value → List Value
 | _, [] => cs
 | j, v :: vs => setL (cs.set j v) (j + 1) vs
theorem Arr.setAll {g : Nat} {t : TypeId} (vs : List Value) : ∀ {w : World} {cs : List Value} (j : Nat), Arr w g t cs → Arr (setAll w g j vs) g t (setL cs j vs) := by
 induction vs with
 | nil => intro w cs j h; exact h
 | cons v vs ih => intro w cs j h; exact ih (j + 1) (h.set j v)
theorem Arr.setAllOther {g k : Nat} {t : TypeId} (hne : k ≠ g) (vs : List Value) : ∀ {w : World} {cs : List Value} (j : Nat), Arr w k t cs → Arr (Go.Proofs.YtihoaakbkffejaaGreatDoor.setAll w g j vs) k t cs := by
 induction vs with
 | nil => intro w cs j h; exact h
 | cons v vs ih => intro w cs j h; exact ih (j + 1) (h.other ⟨g, j, none⟩ v hne)
theorem setAll_below {B g : Nat} {w0 : World} (hg : B ≤ g) (vs : List Value) : ∀ {w : World} (j : Nat), Below B w0 w → Below B w0 (setAll w g j vs) := by
 induction vs with
 | nil => intro w j h; exact h
 | cons v vs ih => intro w j h; exact ih (j + 1) (h.setCell (p := ⟨g, j, none⟩) hg v)
end Go.Proofs.YtihoaakbkffejaaGreatDoor
namespace Go.Proofs.YtihoaakbkffejaaGreatDoor
open Go.RowKit
set_option maxRecDepth 100000

theorem vr_range {W : World} {g : Nat} {cs : List Value} (h : Vr W g cs) : W.rangeAt g 0 cs := by
 intro j v hj
 rw [Nat.zero_add, h.cell j]
 exact hj
theorem one_lm (l : List Int) : ∀ v ∈ I64 l, v.oneCell' = true := by
 intro v hv
 obtain ⟨x, _, rfl⟩ := List.mem_map.1 hv
 rfl
theorem Vr.setCellsO {g k : Nat} {cs : List Value} (hne : k ≠ g) {vs : List Value} {w : World} {j : Nat} (h : Vr w k cs) : Vr (w.setCells g j vs) k cs := by
 obtain ⟨t, z, h⟩ := h
 refine ⟨t, z, ?_⟩
 induction vs generalizing w j with
 | nil => exact h
 | cons v vs ih => exact ih (by rw [heap_setCell_other _ _ _ _ hne]; exact h)
theorem val_pl {x : Int} (h0 : 0 ≤ x) (h1 : x < 115792089237316195423570985008687907853269984665640564039457584007913129639936) : val (lim 16 x) = x := by
 rw [val_lim, p256, Int.emod_eq_of_lt h0 h1]
theorem Vr.rowOther {w : World} {g k : Nat} {cs : List Value} (h : Vr w g cs) (ds : Array Value) (hne : g ≠ k) : Vr (w.setRow k ds) g cs := by
 obtain ⟨t, z, h⟩ := h
 exact ⟨t, z, (setRow_other w k g ds hne).trans h⟩
theorem Vr.other {w : World} {g : Nat} {cs : List Value} (h : Vr w g cs) (p : Addr) (v : Value) (hne : g ≠ p.block) : Vr (w.setCell p v) g cs := by
 obtain ⟨t, z, h⟩ := h
 exact ⟨t, z, (heap_setCell_other w p g v hne).trans h⟩
end Go.Proofs.YtihoaakbkffejaaGreatDoor

/-
  What is proved here: the contract of the program's fieldInverse; when two arrays of limbs are equal; where the program's variable holds the prime; the contract of the specification's l4fourth, and what an answer of the field is; the contract of the program's method list on limbs; the base is a point, and so many times the base as the order tells is the zero, reckoned by the kernel; no program is spoken of; the laws of the points in lists: what is a point, sums, opposites, multiples, a multiplier and one more; squares have two roots, and the last bit tells them apart; no program is spoken of; what the program makes of points in its own long form are the specification's lists; no program is spoken of.
-/
import Derived.Test.YtoblilngppjmhaaDoorZJg
import Derived.Test.YtoblilngppjmhaaDoorZPn
import Derived.Test.YtoblilngppjmhaaDoorZUg
import Derived.Test.YtoblilngppjmhaaDoorZFu
import Derived.Test.YtoblilngppjmhaaDoorZFs
import Derived.Test.YtoblilngppjmhaaDoorZJa
import Derived.Test.YtoblilngppjmhaaDoorZKit
import Derived.Test.YtoblilngppjmhaaDoorZYe
import Derived.Test.YtoblilngppjmhaaDoorZUi
import Derived.Test.YtoblilngppjmhaaDoorZUc
namespace Go.Proofs.YtoblilngppjmhaaDoor
open Go.RowKit
set_option maxRecDepth 100000

theorem two_val : val [2, 0, 0, 0, 0, 0, 0, 0, 0, 0, 0, 0, 0, 0, 0, 0] = 2 := by decide
theorem two_lm : Lm [2, 0, 0, 0, 0, 0, 0, 0, 0, 0, 0, 0, 0, 0, 0, 0] := by unfold Lm; decide
theorem inv_exp : lim 16 (P25519 - 2) = tk16 PL (lim 16 2) := by
  rw [tk16_lim PL_len two_len, PL_val, val_lim]
  rfl
set_option maxHeartbeats 2000000 in
theorem implInverse (a : List Int) (w : World) (ha : feOk a = true) (hV : Vr w 4 (I64 PL)) :
    Calls Tryd.prog 103 #[.agg (I64 a).toArray] w fun e w' => e = .returned (.agg (I64 (invF a)).toArray) ∧ Below w.heap.size w w' := by
  obtain ⟨la16, la, va⟩ := (feOk_iff a).1 ha
  obtain ⟨R, hR⟩ : ∃ R, R = invF a := ⟨_, rfl⟩
  have hRl : R.length = 16 := by rw [hR]; exact red_len _
  obtain ⟨tl, tm, tv⟩ := tk_two
  rw [← inv_exp] at tl tm tv
  obtain ⟨T, hT⟩ : ∃ T, T = lim 16 (P25519 - 2) := ⟨_, rfl⟩
  rw [← hT] at tl tm tv
  have HM : Hid (∀ Z, Calls Tryd.prog 137 #[.agg (I64 PL).toArray, .agg #[.int .i64 2, .int .i64 0, .int .i64 0, .int .i64 0, .int .i64 0, .int .i64 0, .int .i64 0, .int .i64 0, .int .i64 0, .int .i64 0, .int .i64 0, .int .i64 0, .int .i64 0, .int .i64 0, .int .i64 0, .int .i64 0]] Z fun e w' => e = .returned (.agg (I64 T).toArray) ∧ Below Z.heap.size Z w') := by
    unfold Hid; intro Z
    have := implMinus PL [2, 0, 0, 0, 0, 0, 0, 0, 0, 0, 0, 0, 0, 0, 0, 0] Z PL_len rfl PL_lm two_lm
    rw [minus_lim PL_len rfl (by rw [PL_val, two_val]; decide) (by rw [PL_val, two_val]; decide), PL_val, two_val, ← hT] at this
    exact this
  have HPW : Hid (∀ Z, Vr Z 4 (I64 PL) → Calls Tryd.prog 136 #[.agg (I64 a).toArray, .agg (I64 T).toArray] Z fun e w' => e = .returned (.agg (I64 R).toArray) ∧ Below Z.heap.size Z w') := by
    unfold Hid; intro Z hZ
    have hv : val T < 57896044618658097711785492504343953926634992332820282019728792003956564819968 := by
      rw [hT, val_pl (by decide) (by decide)]; decide
    have := implPower a T Z ha tl tm hv hZ
    rw [tv] at this
    rw [hR]
    exact this
  rw [← hR]
  obtain ⟨W, hW⟩ : ∃ W, W = (w.alloc (.cells (I64 a).toArray 70)).alloc (.cells #[.int .i64 0, .int .i64 0, .int .i64 0, .int .i64 0, .int .i64 0, .int .i64 0, .int .i64 0, .int .i64 0, .int .i64 0, .int .i64 0, .int .i64 0, .int .i64 0, .int .i64 0, .int .i64 0, .int .i64 0, .int .i64 0] 70) := ⟨_, rfl⟩
  have EE : L2 w W.drew a := by
    have : L2 w W a := by rw [hW]; exact L2.new a hV
    exact this.go (Below.refl _ _).drew
  obtain ⟨A, hA⟩ : ∃ A, A = (I64 a).toArray := ⟨_, rfl⟩
  rw [← hA] at hW ⊢
  have hia : (Tryd.prog.info? 70).map (·.size) = some (I64 a).length := by simpa [la16] using infoL
  have hip : (Tryd.prog.info? 70).map (·.size) = some (I64 PL).length := infoL
  have hir : (Tryd.prog.info? 70).map (·.size) = some (I64 R).toArray.size := by simpa [hRl] using infoL
  have hu : Tryd.prog.underlying 70 = some (.array 16 3) := Tryd.underlying70
  have hone := one_lm R
  clear hA hV hR hT ha la va tl tm tv
  go_enter Tryd.func103, Tryd.ntmps103
  go_wp2
  rw [← hW]
  clear hW
  refine wp_region_held_drew (S := fun W => W.rangeAt w.heap.size 0 (I64 a) ∧ W.rangeAt 4 0 (I64 PL)) (by kernel_rfl) EE.all (fun hHeld => ?_)
  refine wpAnyH_take (i := 0) (oi := { dst := some 3, op := Op.load 70 (Operand.tmp 1), type := 70, pos := "l04_field.go:260", after := #[], guard := none }) (v := _) rfl (by kernel_rfl) (by kernel_rfl) (by kernel_rfl) (fun _ _ _ h => h) (yieldsIf_load_mid (by rfl) _ _ rfl _ _ rfl (I64 a) _ (fun _ h => h.1) hu rfl hia) (by assumption) ?_
  simp only [Act.put, List.setIfInBounds_toArray, List.set_cons_zero, List.set_cons_succ]
  refine wpAnyH_take (i := 1) (oi := { dst := some 4, op := Op.load 70 (Operand.global 4), type := 70, pos := "l04_field.go:260", after := #[], guard := none }) (v := _) rfl (by kernel_rfl) (by kernel_rfl) (by kernel_rfl) (fun _ _ _ h => h) (yieldsIf_load_mid (by rfl) _ _ rfl _ _ rfl (I64 PL) _ (fun _ h => h.2) hu rfl hip) (by assumption) ?_
  simp only [Act.put, List.setIfInBounds_toArray, List.set_cons_zero, List.set_cons_succ]
  refine wpAnyH_ready (rs := [2]) (by kernel_rfl) (by simp) (AllReadyH.cons (o := { dst := some 5, op := Op.build 70 #[(0, Operand.const (Value.int IntKind.i64 2))], type := 70, pos := "l04_field.go:260", after := #[], guard := none }) rfl (fun K hK => ?_) AllReadyH.nil)
  go_simp
  refine hK.out _ _ EE.all (fun hHeld => ?_)
  clear hK K
  refine wpAnyH_ready (rs := [3]) (by kernel_rfl) (by simp) (AllReadyH.cons (o := { dst := some 6, op := Op.call { callee := Callee.value (Operand.func 137), args := #[Operand.tmp 4, Operand.tmp 5], argTypes := #[70, 70] }, type := 70, pos := "l04_field.go:260", after := #[{ on := 1, ground := Ground.data }, { on := 2, ground := Ground.data }], guard := none }) rfl (fun K hK => ?_) AllReadyH.nil)
  go_simp
  refine (HM.out _).mono ?_
  rintro e w1 ⟨rfl, hb1⟩
  replace EE := EE.go hb1
  go_wp2_with fail
  refine hK.out _ _ EE.all (fun hHeld => ?_)
  clear hK K hb1
  refine wpAnyH_ready (rs := [4]) (by kernel_rfl) (by simp) (AllReadyH.cons (o := { dst := some 7, op := Op.call { callee := Callee.value (Operand.func 136), args := #[Operand.tmp 3, Operand.tmp 6], argTypes := #[70, 70] }, type := 70, pos := "l04_field.go:260", after := #[{ on := 0, ground := Ground.data }, { on := 3, ground := Ground.data }, { on := 3, ground := Ground.chain }], guard := none }) rfl (fun K hK => ?_) AllReadyH.nil)
  go_simp
  refine (HPW.out _ EE.vr).mono ?_
  rintro e w2 ⟨rfl, hb2⟩
  replace EE := EE.go hb2
  go_wp2_with fail
  refine hK.out _ _ EE.all (fun hHeld => ?_)
  clear hK K hb2
  obtain ⟨hA5, hB5, hS5, hth⟩ := EE.put hRl
  refine wpAnyH_ready (rs := [5]) (by kernel_rfl) (by simp) (AllReadyH.cons (o := { dst := none, op := Op.store 70 (Operand.tmp 2) (Operand.tmp 7), type := 0, pos := "l04_field.go:260", after := #[{ on := 4, ground := Ground.data }, { on := 4, ground := Ground.chain }, { on := 0, ground := Ground.phase }, { on := 1, ground := Ground.phase }, { on := 2, ground := Ground.phase }, { on := 3, ground := Ground.phase }, { on := 4, ground := Ground.phase }], guard := none }) rfl (fun K hK => ?_) AllReadyH.nil)
  rw [if_pos (by rfl)]
  refine wp_store_mid _ _ _ rfl _ _ (I64 R).toArray rfl rfl hth hir (all_oneCell_toArray hone) ?_
  simp only [Act.put]
  refine hK.out _ _ hS5 (fun hHeld => ?_)
  clear hK K
  refine wpAnyH_done (by kernel_rfl) ?_ _
  go_wp2
  exact bodyPost_ret (results_cell_row rfl _ _ (w.heap.size + 1) 70 (I64 R).toArray (0, 0) _ rfl hA5 Tryd.underlying70 rfl hir) rfl ⟨rfl, hB5⟩

/-- Two arrays of limbs are compared. -/
theorem run_eqL (a b : List Int) (w : World) (ha : a.length = 16) (hb : b.length = 16) :
    (Op.equalIn 10000 70 (.agg (I64 a).toArray) (.agg (I64 b).toArray)).run Tryd.prog w = .ok (decide (a = b)) w := by
  obtain ⟨i, hi⟩ : ∃ i, Tryd.prog.info? 3 = some i := by
    cases h : Tryd.prog.info? 3 with
    | some i => exact ⟨i, rfl⟩
    | none => have := infoI; rw [h] at this; simp at this
  have hc : Tryd.prog.cellsOf 3 = 1 := by unfold Program.cellsOf; rw [infoI]; rfl
  rw [run_equalIn_array w 9999 _ _ Tryd.underlying70 hi, hc, run_eqItems_i64 a b 9998 w _ (fun i h => by have := List.mem_range.1 h; omega), all_range ha hb]

end Go.Proofs.YtoblilngppjmhaaDoor
namespace Go.Proofs.YtoblilngppjmhaaDoor
open Go.RowKit
set_option maxRecDepth 100000

/-- A root of the opposite of one, in parts. -/
def QL : List Int := [41136, 18958, 6951, 50414, 58488, 44335, 6150, 12099, 55207, 15867, 153, 11085, 57099, 20417, 9344, 11139]
set_option maxHeartbeats 1000000 in
theorem specFourth (w : World) :
    Calls Tryd.prog 146 #[] w fun e w' => e = .returned (.agg (I64 QL).toArray) ∧ Below w.heap.size w w' := by
  obtain ⟨W, hW⟩ : ∃ W, W = w.alloc (.cells (I64 Z16).toArray 82) := ⟨_, rfl⟩
  have g0 : Arr (w.alloc (.cells #[.int .i64 0, .int .i64 0, .int .i64 0, .int .i64 0, .int .i64 0, .int .i64 0, .int .i64 0, .int .i64 0, .int .i64 0, .int .i64 0, .int .i64 0, .int .i64 0, .int .i64 0, .int .i64 0, .int .i64 0, .int .i64 0] 82)) w.heap.size 82 (I64 Z16) := Arr.new w (I64 Z16) _
  have gB : Below w.heap.size w (w.alloc (.cells #[.int .i64 0, .int .i64 0, .int .i64 0, .int .i64 0, .int .i64 0, .int .i64 0, .int .i64 0, .int .i64 0, .int .i64 0, .int .i64 0, .int .i64 0, .int .i64 0, .int .i64 0, .int .i64 0, .int .i64 0, .int .i64 0] 82)) := (Below.refl _ _).alloc (Nat.le_refl _) _
  have g1 := g0.row (I64 QL)
  have gB1 := setRow_below gB w.heap.size (I64 QL).toArray (Nat.le_refl _)
  go_enter Tryd.func146, Tryd.ntmps146
  go_wp2_with (refine wpList_store_row rfl 82 _ _ rfl w.heap.size (I64 QL).toArray rfl rfl 82 _ g0 infoE rfl (by simp [QL, Value.oneCell']) ?_)
  exact bodyPost_ret (results_cell_row rfl _ _ w.heap.size 82 (I64 QL).toArray (0, 0) _ rfl g1 Tryd.underlying82 rfl infoE) rfl ⟨rfl, gB1⟩
end Go.Proofs.YtoblilngppjmhaaDoor
namespace Go.Proofs.YtoblilngppjmhaaDoor
open Go.RowKit
set_option maxRecDepth 100000

set_option maxHeartbeats 1000000 in
theorem implList (l : List Int) (w : World) (hl : l.length = 16) :
    Calls Tryd.prog 72 #[.agg (I64 l).toArray] w fun e w' => ∃ a c, e = .returned (.slice a 16 c) ∧ w'.ownsRow w.heap.size 70 1 (.slice a 16 c) 16 (I64 l) ∧ Below w.heap.size w w' := by
  obtain ⟨W, hW⟩ : ∃ W, W = w.alloc (.cells (I64 l).toArray 70) := ⟨_, rfl⟩
  have g0 : Arr W w.heap.size 70 (I64 l) := by rw [hW]; exact Arr.new _ _ _
  have gB : Below w.heap.size w W := by rw [hW]; exact (Below.refl _ _).alloc (Nat.le_refl _) _
  obtain ⟨A, hA⟩ : ∃ A, A = (I64 l).toArray := ⟨_, rfl⟩
  rw [← hA] at hW ⊢
  have HA : Hid _ := hW ▸ g0
  have HB : Hid _ := hW ▸ gB
  clear hW g0 gB hA
  go_enter Tryd.func72, Tryd.ntmps72
  go_wp2
  go_ret
  refine ⟨some ⟨w.heap.size, 0, none⟩, 16, rfl, ⟨by simp [hl], .inr ⟨w.heap.size, 16, _, rfl, Nat.le_refl _, HA.out, Nat.le_refl _, by unfold maxLen; omega, by simp [hl], by rw [List.take_of_length_le (by simp [hl])]⟩⟩, HB.out⟩

end Go.Proofs.YtoblilngppjmhaaDoor
namespace Go.Proofs.YtoblilngppjmhaaDoor
set_option maxRecDepth 100000
set_option maxHeartbeats 400000
set_option linter.unusedSectionVars false

/-- Sums of points in the long form, on plain numbers: for the kernel to reckon with. -/
def nm (x y : Nat) : Nat := x * y % pN
def na (x y : Nat) : Nat := (x + y) % pN
def ns (x y : Nat) : Nat := (x + (pN - y % pN)) % pN
structure T4 where
  a : Nat
  b : Nat
  c : Nat
  t : Nat
def nAdd (P Q : T4) : T4 :=
  let A := nm (ns P.b P.a) (ns Q.b Q.a)
  let B := nm (na P.b P.a) (na Q.b Q.a)
  let C := nm (nm P.t Q.t) (na dN dN)
  let D := nm P.c (na Q.c Q.c)
  let E := ns B A
  let F := ns D C
  let G := na D C
  let H := na B A
  ⟨nm E F, nm G H, nm F G, nm E H⟩
def nst (P : T4) (N : Nat) : Nat → T4
  | 0 => ⟨0, 1, 1, 0⟩
  | n + 1 => if N / 2 ^ (255 - n) % 2 = 1 then nAdd (nAdd (nst P N n) (nst P N n)) P else nAdd (nst P N n) (nst P N n)
theorem nst_one {P : T4} {N n : Nat} (h : N / 2 ^ (255 - n) % 2 = 1) : nst P N (n + 1) = nAdd (nAdd (nst P N n) (nst P N n)) P := by rw [nst, if_pos h]
theorem nst_nil {P : T4} {N n : Nat} (h : ¬ N / 2 ^ (255 - n) % 2 = 1) : nst P N (n + 1) = nAdd (nst P N n) (nst P N n) := by rw [nst, if_neg h]
def bxN : Nat := 15112221349535400772501151409588531511454012693041857206046113283949847762202
def byN : Nat := 46316835694926478169428394003475163141307993866256225615783033603165251855960
def nB : T4 := ⟨bxN, byN, 1, nm bxN byN⟩
def oN : Nat := 7237005577332262213973186563042994240857116359379907606001950938285454250989
theorem nst_order : (nst nB oN 256).a = 0 ∧ (nst nB oN 256).b = (nst nB oN 256).c := by decide +kernel
theorem oN_lt : oN < 2 ^ 256 := by unfold oN; decide
/-- A plain number as one of the field. -/
def fn (x : Nat) : KF := fe (x : Int)
theorem fn_mod (x : Nat) : fn (x % pN) = fn x := by unfold fn; rw [Int.natCast_emod, pN_int, fe_mod]
section
variable [NeZero pN]
theorem fn_mul (x y : Nat) : fn (nm x y) = fn x * fn y := by unfold nm; rw [fn_mod]; unfold fn; rw [Int.natCast_mul, fe_mul]
theorem fn_add (x y : Nat) : fn (na x y) = fn x + fn y := by unfold na; rw [fn_mod]; unfold fn; rw [Int.natCast_add, fe_add]
theorem fn_pN : fn pN = 0 := by unfold fn; rw [pN_int, fe_nz, Int.emod_self]
theorem fn_sub (x y : Nat) : fn (ns x y) = fn x - fn y := by
  have hlt : y % pN < pN := Nat.mod_lt _ (Nat.pos_of_ne_zero pN_ne)
  have e : fn (pN - y % pN) + fn y = 0 := by
    rw [← fn_mod y, ← fn_pN]
    unfold fn
    rw [← fe_add, ← Int.natCast_add, Nat.sub_add_cancel (Nat.le_of_lt hlt)]
  unfold ns
  rw [fn_mod]
  have e2 : fn (x + (pN - y % pN)) = fn x + fn (pN - y % pN) := by unfold fn; rw [Int.natCast_add, fe_add]
  rw [e2]
  grind
def Ext4 (T : T4) (p : KF × KF) : Prop := Ext (fn T.a) (fn T.b) (fn T.c) (fn T.t) p
theorem ext4_add {P Q : T4} {p q : KF × KF} (h1 : Ext4 P p) (h2 : Ext4 Q q) (o1 : On dK p) (o2 : On dK q) : Ext4 (nAdd P Q) (pAdd dK ivK p q) := by
  unfold Ext4 nAdd
  simp only [fn_mul, fn_add, fn_sub]
  exact Ext.add crvK h1 h2 o1 o2 rfl rfl rfl rfl rfl rfl rfl rfl
theorem fn_one : fn 1 = 1 := by unfold fn; exact fe_one
theorem fn_zero : fn 0 = 0 := by unfold fn; exact fe_zero
theorem ext4_zero : Ext4 ⟨0, 1, 1, 0⟩ pZero := by
  unfold Ext4
  rw [fn_zero, fn_one]
  have h := Ext.make crvK (0 : KF) 1
  have e : (0 : KF) * 1 = 0 := by grind
  rw [e] at h
  exact h
theorem ext4_nst {P : T4} {p : KF × KF} (h : Ext4 P p) (o : On dK p) (N : Nat) (hN : N < 2 ^ 256) : ∀ n, n ≤ 256 → Ext4 (nst P N n) (pMul dK ivK (N / 2 ^ (256 - n)) p)
  | 0, _ => by
    have e : N / 2 ^ (256 - 0) = 0 := Nat.div_eq_of_lt hN
    rw [e]
    exact ext4_zero
  | n + 1, hn => by
    have ih1 := ext4_nst h o N hN n (by omega)
    have hb := crvK.mul_bit o N (255 - n)
    have e1 : 256 - (n + 1) = 255 - n := by omega
    have e2 : 256 - n = 255 - n + 1 := by omega
    rw [e2] at ih1
    rw [e1, hb]
    have om := crvK.on_mul o (N / 2 ^ (255 - n + 1))
    by_cases hbit : N / 2 ^ (255 - n) % 2 = 1
    · rw [nst_one hbit, if_pos hbit]
      exact ext4_add (ext4_add ih1 ih1 om om) h (crvK.on_add om om) o
    · rw [nst_nil hbit, if_neg hbit]
      exact ext4_add ih1 ih1 om om
/-- The base, and that it is a point. -/
def baseK : KF × KF := (fn bxN, fn byN)
theorem on_base : On dK baseK := by
  show fn byN * fn byN - fn bxN * fn bxN = 1 + dK * (fn bxN * fn bxN) * (fn byN * fn byN)
  have hd : dK = fn dN := rfl
  rw [hd, ← fn_one, ← fn_mul, ← fn_mul, ← fn_sub, ← fn_mul, ← fn_mul, ← fn_add]
  congr 1
theorem ext4_base : Ext4 nB baseK := by
  have h := Ext.make crvK (fn bxN) (fn byN)
  rw [← fn_mul, ← fn_one] at h
  exact h
/-- So many times the base as the order tells is the zero. -/
theorem order_base : pMul dK ivK oN baseK = pZero := by
  have h := ext4_nst ext4_base on_base oN oN_lt 256 (by omega)
  rw [Nat.sub_self, Nat.pow_zero, Nat.div_one] at h
  obtain ⟨hx, hy⟩ := Ext.flat crvK h
  rw [nst_order.1, fn_zero] at hx
  rw [nst_order.2] at hy
  have hc := crvK.inv _ h.hc
  rw [hc] at hy
  apply Prod.ext
  · rw [← hx]
    show 0 * ivK (fn (nst nB oN 256).c) = (0 : KF)
    generalize ivK (fn (nst nB oN 256).c) = z
    grind
  · rw [← hy]; rfl
end
end Go.Proofs.YtoblilngppjmhaaDoor
namespace Go.Proofs.YtoblilngppjmhaaDoor
open Go.RowKit
set_option maxRecDepth 100000
set_option maxHeartbeats 4000000
set_option linter.unusedSectionVars false

/-- Two lists as a pair of numbers of the field. -/
def pt (xs ys : List Int) : KF × KF := (fl xs, fl ys)
theorem pt_back (p : KF × KF) : pt (cx p.1) (cx p.2) = p := by unfold pt; rw [fl_cx, fl_cx]
theorem pt_cx {xs ys : List Int} (h : ptOk xs ys = true) : cx (pt xs ys).1 = xs ∧ cx (pt xs ys).2 = ys := by
  obtain ⟨h1, h2, _⟩ := (ptOk_iff xs ys).1 h
  exact ⟨cx_fl h1, cx_fl h2⟩
section
variable [NeZero pN]
theorem pt_on {xs ys : List Int} (h : ptOk xs ys = true) : On dK (pt xs ys) := (onB_iff xs ys).1 ((ptOk_iff xs ys).1 h).2.2
theorem pt_ok {p : KF × KF} (h : On dK p) : ptOk (cx p.1) (cx p.2) = true := by
  refine (ptOk_iff _ _).2 ⟨cx_ok _, cx_ok _, (onB_iff _ _).2 ?_⟩
  have := pt_back p
  unfold pt at this
  rw [this]
  exact h
theorem pt_add {xs ys us vs : List Int} (h : ptOk xs ys = true) (k : ptOk us vs = true) :
    flx (add6 (mk6 xs ys) (mk6 us vs)) = cx (pAdd dK ivK (pt xs ys) (pt us vs)).1 ∧ fly (add6 (mk6 xs ys) (mk6 us vs)) = cx (pAdd dK ivK (pt xs ys) (pt us vs)).2 :=
  ext6_flat (ext6_add (ext6_make xs ys) (ext6_make us vs) (pt_on h) (pt_on k))
theorem pt_neg (xs ys : List Int) : flx (neg6 (mk6 xs ys)) = cx (pNeg (pt xs ys)).1 ∧ fly (neg6 (mk6 xs ys)) = cx (pNeg (pt xs ys)).2 :=
  ext6_flat (ext6_neg (ext6_make xs ys))
theorem pt_mul {xs ys : List Int} (h : ptOk xs ys = true) (N : Nat) (hN : N < 2 ^ 256) :
    flx (mul6 (mk6 xs ys) N) = cx (pMul dK ivK N (pt xs ys)).1 ∧ fly (mul6 (mk6 xs ys) N) = cx (pMul dK ivK N (pt xs ys)).2 :=
  ext6_flat (ext6_mul (ext6_make xs ys) (pt_on h) N hN)
/-- A multiplier and one more, modulo the order. -/
theorem mul_next (k : Nat) (hk : k < oN) : pMul dK ivK ((k + 1) % oN) baseK = pAdd dK ivK (pMul dK ivK k baseK) baseK := by
  show _ = pMul dK ivK (k + 1) baseK
  by_cases h : k + 1 = oN
  · rw [h, Nat.mod_self, order_base]; rfl
  · rw [Nat.mod_eq_of_lt (by omega)]
theorem one_nought (d y : KF) (h : 1 + d * (y * y) = 0) (hy : y = 0) : (1 : KF) = 0 := by
  have e : (1 : KF) = 0 - d * y * y := by grind
  have e2 : ∀ a b : KF, b = 0 → a - d * y * b = a := by intro a b hb; grind
  rw [e, e2 _ _ hy]
theorem sub_nought (a : KF) : a - a = 0 := by grind
/-- No two numbers but nought make nought. -/
theorem nz_K {a b : KF} (h : a * b = 0) : a = 0 ∨ b = 0 := by
  by_cases ha : a = 0
  · exact .inl ha
  · by_cases hb : b = 0
    · exact .inr hb
    · exact absurd h (crvK.nz_mul ha hb)
/-- A square has two roots. -/
theorem roots_K {a b : KF} (h : a * a = b * b) : a = b ∨ a = 0 - b := by
  have : (a - b) * (a + b) = 0 := by grind
  rcases nz_K this with h | h
  · exact .inl (by grind)
  · exact .inr (by grind)
/-- The opposite as a whole number. -/
theorem neg_val {b : KF} (h : b ≠ 0) : ((0 - b : KF).val : Int) = P25519 - (b.val : Int) := by
  have hb := cx_lt b
  have e : (0 - b : KF) = fe (P25519 - (b.val : Int)) := by
    rw [fe_sub, fe_back]
    have : fe P25519 = 0 := fe_nz.2 (Int.emod_self)
    rw [this]
  have hz : (b.val : Int) ≠ 0 := fun e => h (by rw [← fe_back b, e, fe_zero])
  rw [e, fe_val]
  exact Int.emod_eq_of_lt (by omega) (by omega)
/-- Of the two roots the last bit tells which. -/
theorem root_one {a b : KF} (h : a * a = b * b) (hp : (a.val : Int) % 2 = (b.val : Int) % 2) : a = b := by
  rcases roots_K h with h | h
  · exact h
  · by_cases hb : b = 0
    · rw [h, hb]; exact sub_nought 0
    · have := neg_val hb
      rw [← h] at this
      have : P25519 % 2 = 1 := by unfold P25519; decide
      omega
end
end Go.Proofs.YtoblilngppjmhaaDoor
namespace Go.Proofs.YtoblilngppjmhaaDoor
open Go.RowKit
set_option maxRecDepth 100000
set_option maxHeartbeats 4000000

theorem neg_lists {xs ys : List Int} (h : ptOk xs ys = true) : flx (neg6 (mk6 xs ys)) = red (val (lim 16 0) - val xs) ∧ fly (neg6 (mk6 xs ys)) = ys := by
  haveI := nzP
  obtain ⟨h1, h2⟩ := pt_neg xs ys
  obtain ⟨_, h3⟩ := pt_cx h
  refine ⟨?_, ?_⟩
  · rw [h1, ← cx_fl (ok_red (val (lim 16 0) - val xs)), fl_sub, fl_zero]
    rfl
  · rw [h2]; exact h3
theorem twice_lists {xs ys : List Int} (h : ptOk xs ys = true) : flx (dbl6 (mk6 xs ys)) = flx (add6 (mk6 xs ys) (mk6 xs ys)) ∧ fly (dbl6 (mk6 xs ys)) = fly (add6 (mk6 xs ys) (mk6 xs ys)) := by
  haveI := nzP
  obtain ⟨h1, h2⟩ := pt_add h h
  obtain ⟨h3, h4⟩ := ext6_flat (ext6_dbl (ext6_make xs ys) (pt_on h))
  exact ⟨h3.trans h1.symm, h4.trans h2.symm⟩
theorem add_lists {xs ys us vs : List Int} (h : ptOk xs ys = true) (k : ptOk us vs = true) : flx (join6 (mk6 xs ys) (mk6 us vs)) = flx (add6 (mk6 xs ys) (mk6 us vs)) ∧ fly (join6 (mk6 xs ys) (mk6 us vs)) = fly (add6 (mk6 xs ys) (mk6 us vs)) := by
  haveI := nzP
  obtain ⟨h1, h2⟩ := pt_add h k
  obtain ⟨h3, h4⟩ := ext6_flat (ext6_join (ext6_make xs ys) (ext6_make us vs) (pt_on h) (pt_on k))
  exact ⟨h3.trans h1.symm, h4.trans h2.symm⟩
theorem mul_lists {xs ys : List Int} (h : ptOk xs ys = true) (N : Nat) (hN : N < 2 ^ 253) : flx (jul6 (mk6 xs ys) N) = flx (mul6 (mk6 xs ys) N) ∧ fly (jul6 (mk6 xs ys) N) = fly (mul6 (mk6 xs ys) N) := by
  haveI := nzP
  obtain ⟨h1, h2⟩ := pt_mul h N (Nat.lt_trans hN (by decide))
  obtain ⟨h3, h4⟩ := ext6_flat (ext6_jul (ext6_make xs ys) (pt_on h) N hN)
  exact ⟨h3.trans h1.symm, h4.trans h2.symm⟩
theorem flat_mk {x y : List Int} (hx : feOk x = true) (hy : feOk y = true) : flx (mk6 x y) = x ∧ fly (mk6 x y) = y := by
  haveI := nzP
  obtain ⟨h1, h2⟩ := ext6_flat (ext6_make x y)
  exact ⟨h1.trans (cx_fl hx), h2.trans (cx_fl hy)⟩
end Go.Proofs.YtoblilngppjmhaaDoor

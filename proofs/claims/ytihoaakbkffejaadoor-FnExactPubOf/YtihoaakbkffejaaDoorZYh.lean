/-
  What is proved here: the base is a point, and so many times the base as the order tells is the zero, reckoned by the kernel; no program is spoken of; contracts of the specification's l6flat; plain facts on memory; the contract of the specification's PtOk: whether two lists are a point; the laws of the points in lists: what is a point, sums, opposites, multiples, a multiplier and one more; squares have two roots, and the last bit tells them apart; no program is spoken of; plain facts on rows that a call owns: how they lie apart, and how they stay while another is written; no program is spoken of, no condition; what an answer in parts in a row of a given type is; the contract of a helper of the exact laws (hold two slices of ints against each other), for every slice of at most 2^21 ints; contracts of two helpers of the exact laws (mark a slice of ints, look whether the marks are held), for every slice of at most 2^21 ints.
-/
import Derived.Test.YtihoaakbkffejaaDoorZPm
import Derived.Test.YtihoaakbkffejaaDoorZUd
import Derived.Test.YtihoaakbkffejaaDoorZFp
import Derived.Test.YtihoaakbkffejaaDoorZFyq
import Derived.Test.YtihoaakbkffejaaDoorZUh
import Derived.Test.YtihoaakbkffejaaDoorZFm
import Derived.Laws.Rows
import Derived.Test.YtihoaakbkffejaaDoorProg
import Derived.Test.YtihoaakbkffejaaDoorZArr
import Derived.Deep.QuietTactic
import Derived.BigQuiet
namespace Go.Proofs.YtihoaakbkffejaaDoor
set_option maxRecDepth 100000
set_option maxHeartbeats 400000
set_option linter.unusedSectionVars false

/-- Sums of points in the long form, on plain numbers: for the kernel to reckon with. -/
def nm (x y : Nat) : Nat := x * y % pN
def na (x y : Nat) : Nat := (x + y) % pN
def ns (x y : Nat) : Nat := (x + (pN - y % pN)) % pN
structure T4 where
  a : Nat
  b : Nat
  c : Nat
  t : Nat
def nAdd (P Q : T4) : T4 :=
  let A := nm (ns P.b P.a) (ns Q.b Q.a)
  let B := nm (na P.b P.a) (na Q.b Q.a)
  let C := nm (nm P.t Q.t) (na dN dN)
  let D := nm P.c (na Q.c Q.c)
  let E := ns B A
  let F := ns D C
  let G := na D C
  let H := na B A
  ⟨nm E F, nm G H, nm F G, nm E H⟩
def nst (P : T4) (N : Nat) : Nat → T4
  | 0 => ⟨0, 1, 1, 0⟩
  | n + 1 => if N / 2 ^ (255 - n) % 2 = 1 then nAdd (nAdd (nst P N n) (nst P N n)) P else nAdd (nst P N n) (nst P N n)
theorem nst_one {P : T4} {N n : Nat} (h : N / 2 ^ (255 - n) % 2 = 1) : nst P N (n + 1) = nAdd (nAdd (nst P N n) (nst P N n)) P := by rw [nst, if_pos h]
theorem nst_nil {P : T4} {N n : Nat} (h : ¬ N / 2 ^ (255 - n) % 2 = 1) : nst P N (n + 1) = nAdd (nst P N n) (nst P N n) := by rw [nst, if_neg h]
def bxN : Nat := 15112221349535400772501151409588531511454012693041857206046113283949847762202
def byN : Nat := 46316835694926478169428394003475163141307993866256225615783033603165251855960
def nB : T4 := ⟨bxN, byN, 1, nm bxN byN⟩
def oN : Nat := 7237005577332262213973186563042994240857116359379907606001950938285454250989
theorem nst_order : (nst nB oN 256).a = 0 ∧ (nst nB oN 256).b = (nst nB oN 256).c := by decide +kernel
theorem oN_lt : oN < 2 ^ 256 := by unfold oN; decide
/-- A plain number as one of the field. -/
def fn (x : Nat) : KF := fe (x : Int)
theorem fn_mod (x : Nat) : fn (x % pN) = fn x := by unfold fn; rw [Int.natCast_emod, pN_int, fe_mod]
section
variable [NeZero pN]
theorem fn_mul (x y : Nat) : fn (nm x y) = fn x * fn y := by unfold nm; rw [fn_mod]; unfold fn; rw [Int.natCast_mul, fe_mul]
theorem fn_add (x y : Nat) : fn (na x y) = fn x + fn y := by unfold na; rw [fn_mod]; unfold fn; rw [Int.natCast_add, fe_add]
theorem fn_pN : fn pN = 0 := by unfold fn; rw [pN_int, fe_nz, Int.emod_self]
theorem fn_sub (x y : Nat) : fn (ns x y) = fn x - fn y := by
  have hlt : y % pN < pN := Nat.mod_lt _ (Nat.pos_of_ne_zero pN_ne)
  have e : fn (pN - y % pN) + fn y = 0 := by
    rw [← fn_mod y, ← fn_pN]
    unfold fn
    rw [← fe_add, ← Int.natCast_add, Nat.sub_add_cancel (Nat.le_of_lt hlt)]
  unfold ns
  rw [fn_mod]
  have e2 : fn (x + (pN - y % pN)) = fn x + fn (pN - y % pN) := by unfold fn; rw [Int.natCast_add, fe_add]
  rw [e2]
  grind
def Ext4 (T : T4) (p : KF × KF) : Prop := Ext (fn T.a) (fn T.b) (fn T.c) (fn T.t) p
theorem ext4_add {P Q : T4} {p q : KF × KF} (h1 : Ext4 P p) (h2 : Ext4 Q q) (o1 : On dK p) (o2 : On dK q) : Ext4 (nAdd P Q) (pAdd dK ivK p q) := by
  unfold Ext4 nAdd
  simp only [fn_mul, fn_add, fn_sub]
  exact Ext.add crvK h1 h2 o1 o2 rfl rfl rfl rfl rfl rfl rfl rfl
theorem fn_one : fn 1 = 1 := by unfold fn; exact fe_one
theorem fn_zero : fn 0 = 0 := by unfold fn; exact fe_zero
theorem ext4_zero : Ext4 ⟨0, 1, 1, 0⟩ pZero := by
  unfold Ext4
  rw [fn_zero, fn_one]
  have h := Ext.make crvK (0 : KF) 1
  have e : (0 : KF) * 1 = 0 := by grind
  rw [e] at h
  exact h
theorem ext4_nst {P : T4} {p : KF × KF} (h : Ext4 P p) (o : On dK p) (N : Nat) (hN : N < 2 ^ 256) : ∀ n, n ≤ 256 → Ext4 (nst P N n) (pMul dK ivK (N / 2 ^ (256 - n)) p)
  | 0, _ => by
    have e : N / 2 ^ (256 - 0) = 0 := Nat.div_eq_of_lt hN
    rw [e]
    exact ext4_zero
  | n + 1, hn => by
    have ih1 := ext4_nst h o N hN n (by omega)
    have hb := crvK.mul_bit o N (255 - n)
    have e1 : 256 - (n + 1) = 255 - n := by omega
    have e2 : 256 - n = 255 - n + 1 := by omega
    rw [e2] at ih1
    rw [e1, hb]
    have om := crvK.on_mul o (N / 2 ^ (255 - n + 1))
    by_cases hbit : N / 2 ^ (255 - n) % 2 = 1
    · rw [nst_one hbit, if_pos hbit]
      exact ext4_add (ext4_add ih1 ih1 om om) h (crvK.on_add om om) o
    · rw [nst_nil hbit, if_neg hbit]
      exact ext4_add ih1 ih1 om om
/-- The base, and that it is a point. -/
def baseK : KF × KF := (fn bxN, fn byN)
theorem on_base : On dK baseK := by
  show fn byN * fn byN - fn bxN * fn bxN = 1 + dK * (fn bxN * fn bxN) * (fn byN * fn byN)
  have hd : dK = fn dN := rfl
  rw [hd, ← fn_one, ← fn_mul, ← fn_mul, ← fn_sub, ← fn_mul, ← fn_mul, ← fn_add]
  congr 1
theorem ext4_base : Ext4 nB baseK := by
  have h := Ext.make crvK (fn bxN) (fn byN)
  rw [← fn_mul, ← fn_one] at h
  exact h
/-- So many times the base as the order tells is the zero. -/
theorem order_base : pMul dK ivK oN baseK = pZero := by
  have h := ext4_nst ext4_base on_base oN oN_lt 256 (by omega)
  rw [Nat.sub_self, Nat.pow_zero, Nat.div_one] at h
  obtain ⟨hx, hy⟩ := Ext.flat crvK h
  rw [nst_order.1, fn_zero] at hx
  rw [nst_order.2] at hy
  have hc := crvK.inv _ h.hc
  rw [hc] at hy
  apply Prod.ext
  · rw [← hx]
    show 0 * ivK (fn (nst nB oN 256).c) = (0 : KF)
    generalize ivK (fn (nst nB oN 256).c) = z
    grind
  · rw [← hy]; rfl
end
end Go.Proofs.YtihoaakbkffejaaDoor
namespace Go.Proofs.YtihoaakbkffejaaDoor
open Go.RowKit
set_option maxRecDepth 100000

theorem results_pair {P : Program} {fn : Func} {p q : Tmp} {ty : TypeId} {w : World} {g k : Nat} {t s : TypeId} {cs ds : List Value} {d : TypeDesc} {tmps : Array Value} (h : fn.results = #[.cell p ty, .cell q ty])
  (hp : tmps.getD p undef = .pointer (some ⟨g, 0, none⟩)) (hq : tmps.getD q undef = .pointer (some ⟨k, 0, none⟩)) (hg : Arr w g t cs) (hk : Arr w k s ds) (hu : P.underlying ty = some d) (hd : (match d with | .struct _ | .array _ _ => true | _ => false) = true) (hi : (P.info? ty).map (·.size) = some cs.length) (hj : (P.info? ty).map (·.size) = some ds.length) :
  (results fn tmps).run P w = .ok (.tuple #[.agg cs.toArray, .agg ds.toArray]) w := by
 have hl := run_loadVar_row (P := P) w g t ty cs.toArray (0, 0) d hg hu hd (by simpa using hi)
 have hm := run_loadVar_row (P := P) w k s ty ds.toArray (0, 0) d hk hu hd (by simpa using hj)
 have hp' : tmps[p]?.getD undef = .pointer (some ⟨g, 0, none⟩) := by simpa using hp
 have hq' : tmps[q]?.getD undef = .pointer (some ⟨k, 0, none⟩) := by simpa using hq
 simp only [results, h]
 simp [Sem.run_bind, hp', hq', asAddr, Result.andThen, hl, hm]
theorem inv_ok (l : List Int) : feOk (invF l) = true := ok_red _

set_option maxHeartbeats 4000000 in
theorem spec6flat (P : E4) (w : World) (hP : P.Ok) :
  Calls Tryd.prog 17 #[.agg (I64 P.cells).toArray] w fun e w' => e = .returned (.tuple #[.agg (I64 (flx P)).toArray, .agg (I64 (fly P)).toArray]) ∧ Below w.heap.size w w' := by
 obtain ⟨z, ez⟩ : ∃ z, z = invF P.c := ⟨_, rfl⟩
 have kz : feOk z = true := by rw [ez]; exact inv_ok _
 obtain ⟨x, ex⟩ : ∃ x, x = flx P := ⟨_, rfl⟩
 have kx : feOk x = true := by rw [ex]; exact ok_red _
 obtain ⟨y, ey⟩ : ∃ y, y = fly P := ⟨_, rfl⟩
 have ky : feOk y = true := by rw [ey]; exact ok_red _
 have Hz : Hid (∀ Z, Calls Tryd.prog 32 #[.agg (I64 P.c).toArray] Z fun e w' => e = .returned (.agg (I64 z).toArray) ∧ Below Z.heap.size Z w') := by
  unfold Hid; intro Z; rw [ez]; exact specInv P.c Z (feOk_len hP.c) (feOk_lm' hP.c)
 have Hx : Hid (∀ Z, Calls Tryd.prog 33 #[.agg (I64 P.a).toArray, .agg (I64 z).toArray] Z fun e w' => e = .returned (.agg (I64 x).toArray) ∧ Below Z.heap.size Z w') := by
  unfold Hid; intro Z; rw [ex]; unfold flx; rw [← ez]; exact mulC hP.a kz Z
 have Hy : Hid (∀ Z, Calls Tryd.prog 33 #[.agg (I64 P.b).toArray, .agg (I64 z).toArray] Z fun e w' => e = .returned (.agg (I64 y).toArray) ∧ Below Z.heap.size Z w') := by
  unfold Hid; intro Z; rw [ey]; unfold fly; rw [← ez]; exact mulC hP.b kz Z
 rw [← ex, ← ey]
 have iPa := infoEl hP.a
 have iPb := infoEl hP.b
 have iPc := infoEl hP.c
 have jz := infoE' kz
 have iiz := infoEl kz
 have nz := feOk_len kz
 have jx := infoE' kx
 have jy := infoE' ky
 have iix := infoEl kx
 have iiy := infoEl ky
 have nx := feOk_len kx
 have ny := feOk_len ky
 have ux := one_lm x
 have uy := one_lm y
 have hu : Tryd.prog.underlying 31 = some (.array 16 3) := Tryd.underlying31
 obtain ⟨A, hA⟩ : ∃ A, A = (I64 P.cells).toArray := ⟨_, rfl⟩
 obtain ⟨W, hW⟩ : ∃ W, W = ((w.alloc (.cells A 33)).alloc (.cells #[.int .i64 0, .int .i64 0, .int .i64 0, .int .i64 0, .int .i64 0, .int .i64 0, .int .i64 0, .int .i64 0, .int .i64 0, .int .i64 0, .int .i64 0, .int .i64 0, .int .i64 0, .int .i64 0, .int .i64 0, .int .i64 0] 31)).alloc (.cells #[.int .i64 0, .int .i64 0, .int .i64 0, .int .i64 0, .int .i64 0, .int .i64 0, .int .i64 0, .int .i64 0, .int .i64 0, .int .i64 0, .int .i64 0, .int .i64 0, .int .i64 0, .int .i64 0, .int .i64 0, .int .i64 0] 31) := ⟨_, rfl⟩
 have fr : Below w.heap.size w W := by rw [hW]; exact (((Below.refl _ _).alloc (Nat.le_refl _) _).alloc (by simp) _).alloc (by simp; omega) _
 have pa : Arr W w.heap.size 33 (I64 P.cells) := by rw [hW, hA]; exact ((Arr.new w (I64 P.cells) _).alloc _).alloc _
 have p1 : Arr W (w.heap.size + 1) 31 (I64 Z16) := by
  rw [hW]
  have := (Arr.new (w.alloc (.cells A 33)) (I64 Z16) 31).alloc (.cells (I64 Z16).toArray 31)
  rw [World.size_alloc] at this
  exact this
 have p2 : Arr W (w.heap.size + 2) 31 (I64 Z16) := by
  rw [hW]
  have := Arr.new ((w.alloc (.cells A 33)).alloc (.cells (I64 Z16).toArray 31)) (I64 Z16) 31
  rw [World.size_alloc, World.size_alloc] at this
  exact this
 rw [← hA]
 clear hA ez ex ey kz kx ky
 go_enter Tryd.func17, Tryd.ntmps17
 go_upto_region 1 with fail
 rw [← hW]
 clear hW
 go_wp2_with (refine wpList_load_mid rfl 31 _ rfl w.heap.size 32 rfl (I64 P.c) _ (E4.rc hP pa) Tryd.underlying31 rfl iPc ?_)
 refine (Hz.out _).mono ?_
 rintro e y1 ⟨rfl, hb1⟩
 replace fr := fr.trans (hb1.mono fr.size)
 replace pa := pa.kept hb1
 replace p1 := p1.kept hb1
 replace p2 := p2.kept hb1
 clear hb1
 have hzz : w.heap.size + 2 < y1.heap.size := p2.lt
 obtain ⟨bV, Az, q1⟩ := laid_e y1 z
 replace fr := fr.trans (bV.mono fr.size)
 replace pa := pa.kept bV
 replace p1 := p1.kept bV
 replace p2 := p2.kept bV
 go_wp2_with (refine wpList_store_row rfl 31 _ _ rfl y1.heap.size (I64 z).toArray rfl rfl 31 _ q1 jz (by simp [nz]) (by simp [Value.oneCell']) ?_)
 obtain ⟨V2, hVV⟩ : ∃ V, V = (y1.alloc (.cells #[.int .i64 0, .int .i64 0, .int .i64 0, .int .i64 0, .int .i64 0, .int .i64 0, .int .i64 0, .int .i64 0, .int .i64 0, .int .i64 0, .int .i64 0, .int .i64 0, .int .i64 0, .int .i64 0, .int .i64 0, .int .i64 0] 31)).setRow y1.heap.size (I64 z).toArray := ⟨_, rfl⟩
 obtain ⟨Xz, hE⟩ : ∃ E, E = y1.heap.size := ⟨_, rfl⟩
 rw [← hVV] at fr pa p1 p2 Az ⊢
 rw [← hE] at Az hzz ⊢
 clear hVV hE q1 bV
 try simp only [Act.put]
 have bD : Below V2.heap.size V2 V2.drew := (Below.refl _ _).drew
 replace fr := fr.trans (bD.mono fr.size)
 replace pa := pa.kept bD
 replace p1 := p1.kept bD
 replace p2 := p2.kept bD
 replace Az := Az.kept bD
 clear bD
 refine wp_region_held_drew (S := fun W => W.rangeAt w.heap.size 0 (I64 P.a) ∧ W.rangeAt w.heap.size 16 (I64 P.b) ∧ W.rangeAt Xz 0 (I64 z)) (by kernel_rfl) ⟨E4.ra pa, E4.rb hP pa, arr_range Az⟩ (fun hHeld => ?_)
 obtain ⟨D3, hD⟩ : ∃ V, V = V2.drew := ⟨_, rfl⟩
 rw [← hD] at hHeld fr pa p1 p2 Az ⊢
 clear hD
 refine wpAnyH_take (i := 0) (oi := { dst := some 8, op := Op.fieldAddr 33 (Operand.tmp 1) 0, type := 0, pos := "l06_point.go:69", after := #[], guard := none }) (v := .pointer (some ⟨w.heap.size, 0, none⟩)) rfl (by kernel_rfl) (by kernel_rfl) (by kernel_rfl) (fun _ _ _ h => h) (.inl ⟨by rfl, fun _ _ => by rfl⟩) (by assumption) ?_
 simp only [Act.put, List.setIfInBounds_toArray, List.set_cons_zero, List.set_cons_succ]
 refine wpAnyH_take (i := 1) (oi := { dst := some 9, op := Op.load 31 (Operand.tmp 8), type := 31, pos := "l06_point.go:69", after := #[{ on := 0, ground := Ground.data }], guard := none }) (v := _) rfl (by kernel_rfl) (by kernel_rfl) (by kernel_rfl) (fun _ _ _ h => h) (yieldsIf_load_mid (by rfl) _ _ rfl _ _ rfl (I64 P.a) _ (fun _ h => h.1) hu rfl iPa) (by assumption) ?_
 simp only [Act.put, List.setIfInBounds_toArray, List.set_cons_zero, List.set_cons_succ]
 refine wpAnyH_take (i := 2) (oi := { dst := some 10, op := Op.load 31 (Operand.tmp 4), type := 31, pos := "l06_point.go:69", after := #[], guard := none }) (v := _) rfl (by kernel_rfl) (by kernel_rfl) (by kernel_rfl) (fun _ _ _ h => h) (yieldsIf_load_mid (by rfl) _ _ rfl _ _ rfl (I64 z) _ (fun _ h => h.2.2) hu rfl iiz) (by assumption) ?_
 simp only [Act.put, List.setIfInBounds_toArray, List.set_cons_zero, List.set_cons_succ]
 refine wpAnyH_take (i := 4) (oi := { dst := some 12, op := Op.fieldAddr 33 (Operand.tmp 1) 1, type := 0, pos := "l06_point.go:69", after := #[], guard := none }) (v := .pointer (some ⟨w.heap.size, 16, none⟩)) rfl (by kernel_rfl) (by kernel_rfl) (by kernel_rfl) (fun _ _ _ h => h) (.inl ⟨by rfl, fun _ _ => by rfl⟩) (by assumption) ?_
 simp only [Act.put, List.setIfInBounds_toArray, List.set_cons_zero, List.set_cons_succ]
 refine wpAnyH_take (i := 5) (oi := { dst := some 13, op := Op.load 31 (Operand.tmp 12), type := 31, pos := "l06_point.go:69", after := #[{ on := 4, ground := Ground.data }], guard := none }) (v := _) rfl (by kernel_rfl) (by kernel_rfl) (by kernel_rfl) (fun _ _ _ h => h) (yieldsIf_load_mid (by rfl) _ _ rfl _ _ rfl (I64 P.b) _ (fun _ h => h.2.1) hu rfl iPb) (by assumption) ?_
 simp only [Act.put, List.setIfInBounds_toArray, List.set_cons_zero, List.set_cons_succ]
 refine wpAnyH_take (i := 6) (oi := { dst := some 14, op := Op.load 31 (Operand.tmp 4), type := 31, pos := "l06_point.go:69", after := #[], guard := none }) (v := _) rfl (by kernel_rfl) (by kernel_rfl) (by kernel_rfl) (fun _ _ _ h => h) (yieldsIf_load_mid (by rfl) _ _ rfl _ _ rfl (I64 z) _ (fun _ h => h.2.2) hu rfl iiz) (by assumption) ?_
 simp only [Act.put, List.setIfInBounds_toArray, List.set_cons_zero, List.set_cons_succ]
 refine wpAnyH_ready (rs := [3]) (by kernel_rfl) (by simp) (AllReadyH.cons (o := { dst := some 11, op := Op.call { callee := Callee.value (Operand.func 33), args := #[Operand.tmp 9, Operand.tmp 10], argTypes := #[31, 31] }, type := 31, pos := "l06_point.go:69", after := #[{ on := 1, ground := Ground.data }, { on := 2, ground := Ground.data }], guard := none }) rfl (fun K hK => ?_) AllReadyH.nil)
 go_simp
 refine (Hx.out _).mono ?_
 rintro e y4 ⟨rfl, hb4⟩
 replace fr := fr.trans (hb4.mono fr.size)
 replace pa := pa.kept hb4
 replace p1 := p1.kept hb4
 replace p2 := p2.kept hb4
 replace Az := Az.kept hb4
 clear hb4
 go_wp2_with fail
 refine hK.out _ _ ⟨E4.ra pa, E4.rb hP pa, arr_range Az⟩ (fun hHeld => ?_)
 clear hK K
 refine wpAnyH_ready (rs := [7]) (by kernel_rfl) (by simp) (AllReadyH.cons (o := { dst := some 15, op := Op.call { callee := Callee.value (Operand.func 33), args := #[Operand.tmp 13, Operand.tmp 14], argTypes := #[31, 31] }, type := 31, pos := "l06_point.go:69", after := #[{ on := 5, ground := Ground.data }, { on := 6, ground := Ground.data }, { on := 3, ground := Ground.chain }], guard := none }) rfl (fun K hK => ?_) AllReadyH.nil)
 go_simp
 refine (Hy.out _).mono ?_
 rintro e y5 ⟨rfl, hb5⟩
 replace fr := fr.trans (hb5.mono fr.size)
 replace pa := pa.kept hb5
 replace p1 := p1.kept hb5
 replace p2 := p2.kept hb5
 replace Az := Az.kept hb5
 clear hb5
 go_wp2_with fail
 refine hK.out _ _ ⟨E4.ra pa, E4.rb hP pa, arr_range Az⟩ (fun hHeld => ?_)
 clear hK K
 refine wpAnyH_ready (rs := [8]) (by kernel_rfl) (by simp) (AllReadyH.cons (o := { dst := none, op := Op.store 31 (Operand.tmp 2) (Operand.tmp 11), type := 0, pos := "l06_point.go:69", after := #[{ on := 3, ground := Ground.data }, { on := 7, ground := Ground.chain }, { on := 0, ground := Ground.phase }, { on := 1, ground := Ground.phase }, { on := 2, ground := Ground.phase }, { on := 3, ground := Ground.phase }, { on := 4, ground := Ground.textOnly Departure.lateStores }, { on := 5, ground := Ground.textOnly Departure.lateStores }, { on := 6, ground := Ground.textOnly Departure.lateStores }, { on := 7, ground := Ground.textOnly Departure.lateStoresUnsure }], guard := none }) rfl (fun K hK => ?_) AllReadyH.nil)
 rw [if_pos (by rfl)]
 refine wp_store_mid _ _ _ rfl _ _ (I64 x).toArray rfl rfl (by have := arr_there p1; simpa [nx] using this) jx (all_oneCell_toArray ux) ?_
 simp only [Act.put]
 obtain ⟨V6, hVe⟩ : ∃ V, V = y5.setCells (w.heap.size + 1) 0 (I64 x) := ⟨_, rfl⟩
 rw [← hVe]
 replace fr : Below w.heap.size w V6 := by rw [hVe]; exact setCells_below (by omega) _ _ fr
 replace pa : Arr V6 w.heap.size 33 (I64 P.cells) := by rw [hVe]; exact Arr.setCellsO (by omega) _ _ pa
 replace p1 : Arr V6 (w.heap.size + 1) 31 (I64 x) := by rw [hVe]; exact Arr.setCells0 p1 (by simp [nx])
 replace p2 : Arr V6 (w.heap.size + 2) 31 (I64 Z16) := by rw [hVe]; exact Arr.setCellsO (by omega) _ _ p2
 replace Az : Arr V6 Xz 31 (I64 z) := by rw [hVe]; exact Arr.setCellsO (by omega) _ _ Az
 clear hVe
 refine hK.out _ _ ⟨E4.ra pa, E4.rb hP pa, arr_range Az⟩ (fun hHeld => ?_)
 clear hK K
 refine wpAnyH_ready (rs := [9]) (by kernel_rfl) (by simp) (AllReadyH.cons (o := { dst := none, op := Op.store 31 (Operand.tmp 3) (Operand.tmp 15), type := 0, pos := "l06_point.go:69", after := #[{ on := 7, ground := Ground.data }, { on := 8, ground := Ground.chain }, { on := 0, ground := Ground.phase }, { on := 1, ground := Ground.phase }, { on := 2, ground := Ground.phase }, { on := 3, ground := Ground.phase }, { on := 4, ground := Ground.phase }, { on := 5, ground := Ground.phase }, { on := 6, ground := Ground.phase }, { on := 7, ground := Ground.phase }, { on := 8, ground := Ground.phase }], guard := none }) rfl (fun K hK => ?_) AllReadyH.nil)
 rw [if_pos (by rfl)]
 refine wp_store_mid _ _ _ rfl _ _ (I64 y).toArray rfl rfl (by have := arr_there p2; simpa [ny] using this) jy (all_oneCell_toArray uy) ?_
 simp only [Act.put]
 obtain ⟨V7, hVe⟩ : ∃ V, V = V6.setCells (w.heap.size + 2) 0 (I64 y) := ⟨_, rfl⟩
 rw [← hVe]
 replace fr : Below w.heap.size w V7 := by rw [hVe]; exact setCells_below (by omega) _ _ fr
 replace pa : Arr V7 w.heap.size 33 (I64 P.cells) := by rw [hVe]; exact Arr.setCellsO (by omega) _ _ pa
 replace p1 : Arr V7 (w.heap.size + 1) 31 (I64 x) := by rw [hVe]; exact Arr.setCellsO (by omega) _ _ p1
 replace p2 : Arr V7 (w.heap.size + 2) 31 (I64 y) := by rw [hVe]; exact Arr.setCells0 p2 (by simp [ny])
 replace Az : Arr V7 Xz 31 (I64 z) := by rw [hVe]; exact Arr.setCellsO (by omega) _ _ Az
 clear hVe
 refine hK.out _ _ ⟨E4.ra pa, E4.rb hP pa, arr_range Az⟩ (fun hHeld => ?_)
 clear hK K
 refine wpAnyH_done (by kernel_rfl) ?_ _
 go_wp2
 exact bodyPost_ret (results_pair (cs := I64 x) (ds := I64 y) rfl rfl rfl p1 p2 hu rfl iix iiy) rfl ⟨rfl, fr⟩

theorem infoPt : (Tryd.prog.info? 60).map (·.size) = some 2 := by kernel_rfl
end Go.Proofs.YtihoaakbkffejaaDoor
namespace Go.Proofs.YtihoaakbkffejaaDoor
open Go.RowKit
set_option maxRecDepth 100000

/-- Whether two lists are a point. -/
def ptOk (xs ys : List Int) : Bool := feOk xs && feOk ys && onB xs ys
theorem ptOk_iff (xs ys : List Int) : ptOk xs ys = true ↔ feOk xs = true ∧ feOk ys = true ∧ onB xs ys = true := by
 unfold ptOk
 simp only [Bool.and_eq_true, and_assoc]

end Go.Proofs.YtihoaakbkffejaaDoor
namespace Go.Proofs.YtihoaakbkffejaaDoor
open Go.RowKit
set_option maxRecDepth 100000
set_option maxHeartbeats 4000000
set_option linter.unusedSectionVars false

/-- Two lists as a pair of numbers of the field. -/
def pt (xs ys : List Int) : KF × KF := (fl xs, fl ys)
theorem pt_back (p : KF × KF) : pt (cx p.1) (cx p.2) = p := by unfold pt; rw [fl_cx, fl_cx]
section
variable [NeZero pN]
theorem pt_on {xs ys : List Int} (h : ptOk xs ys = true) : On dK (pt xs ys) := (onB_iff xs ys).1 ((ptOk_iff xs ys).1 h).2.2
theorem pt_ok {p : KF × KF} (h : On dK p) : ptOk (cx p.1) (cx p.2) = true := by
  refine (ptOk_iff _ _).2 ⟨cx_ok _, cx_ok _, (onB_iff _ _).2 ?_⟩
  have := pt_back p
  unfold pt at this
  rw [this]
  exact h
theorem pt_mul {xs ys : List Int} (h : ptOk xs ys = true) (N : Nat) (hN : N < 2 ^ 256) :
    flx (mul6 (mk6 xs ys) N) = cx (pMul dK ivK N (pt xs ys)).1 ∧ fly (mul6 (mk6 xs ys) N) = cx (pMul dK ivK N (pt xs ys)).2 :=
  ext6_flat (ext6_mul (ext6_make xs ys) (pt_on h) N hN)
/-- A sum of multipliers, modulo the order, makes the sum of the base's multiples. -/
theorem mul_sum (j k : Nat) : pMul dK ivK ((j + k) % oN) baseK = pAdd dK ivK (pMul dK ivK j baseK) (pMul dK ivK k baseK) := by
  have C := crvK
  rw [← C.mul_add on_base j k]
  have hq : ∀ q, pMul dK ivK (oN * q) baseK = pZero := by
    intro q
    induction q with
    | zero => rfl
    | succ q ih => rw [Nat.mul_succ, C.mul_add on_base, ih, order_base, C.zero_add]
  have e : j + k = oN * ((j + k) / oN) + (j + k) % oN := (Nat.div_add_mod _ _).symm
  calc pMul dK ivK ((j + k) % oN) baseK = pAdd dK ivK (pMul dK ivK (oN * ((j + k) / oN)) baseK) (pMul dK ivK ((j + k) % oN) baseK) := by rw [hq, C.zero_add]
    _ = pMul dK ivK (oN * ((j + k) / oN) + (j + k) % oN) baseK := (C.mul_add on_base _ _).symm
    _ = _ := by rw [← e]
end
end Go.Proofs.YtihoaakbkffejaaDoor
namespace Go.Proofs.YtihoaakbkffejaaDoor
open Go.RowKit

def Apart (u v : Value) : Prop := ∀ k, u.ownBlock = some k → v.ownBlock ≠ some k
theorem Apart.symm {u v : Value} (h : Apart u v) : Apart v u := fun k hk he => h k he hk
theorem is_of_own {W : World} {B n c e : Nat} {a : Option Addr} {l : List Int} (h : W.ownsRow B e 1 (.slice a n c) n (I64 l)) (hby : ∀ x ∈ l, -9223372036854775808 ≤ x ∧ x ≤ 9223372036854775807) : Is W a n c l := by
  obtain ⟨a', c', e, _, hb⟩ := Is.own h hby
  simp only [Value.slice.injEq, true_and] at e
  obtain ⟨rfl, rfl⟩ := e
  exact hb
theorem bs_of_own {W : World} {B n c : Nat} {a : Option Addr} {l : List Int} (h : W.ownsRow B 5 1 (.slice a n c) n (U8 l)) (hby : ∀ x ∈ l, 0 ≤ x ∧ x < 256) : Bs W a n c l := by
  obtain ⟨a', c', e, _, hb⟩ := Bs.own h hby
  simp only [Value.slice.injEq, true_and] at e
  obtain ⟨rfl, rfl⟩ := e
  exact hb

theorem own_kept {W W' : World} {B n e s : Nat} {u v : Value} {l : List Value} (h : W.ownsRow B e s v n l) (hg : W.grownBy W' u.ownBlock) (ha : Apart u v) : W'.ownsRow B e s v n l := by
  refine h.kept hg ?_
  cases hv : v.ownBlock with
  | none => exact .inl rfl
  | some k => exact .inr (fun e => ha k e.symm hv)

/-- Where a row's block lies. -/
def In (v : Value) (lo hi : Nat) : Prop := ∀ k, v.ownBlock = some k → lo ≤ k ∧ k < hi
theorem In.of {W : World} {B e s n : Nat} {v : Value} {l : List Value} (h : W.ownsRow B e s v n l) : In v B W.heap.size := fun k hk => h.lt k hk
theorem In.apart {u v : Value} {a b c d : Nat} (h : In u a b) (h' : In v c d) (hl : b ≤ c ∨ d ≤ a) : Apart u v := fun k hk he => by
  have := h k hk
  have := h' k he
  omega
theorem In.ne {u : Value} {a b g : Nat} (h : In u a b) (hg : g < a ∨ b ≤ g) : u.ownBlock ≠ some g := fun he => by
  have := h g he
  omega
end Go.Proofs.YtihoaakbkffejaaDoor
namespace Go.Proofs.YtihoaakbkffejaaDoor
open Go.RowKit

/-- An answer that is a number of the field, in memory of its own, in a row of type ty. -/
def FeT (ty : TypeId) (w w' : World) (v : Value) (l : List Int) : Prop := ∃ a c, v = .agg #[.slice a l.length c] ∧ w'.ownsRow w.heap.size ty 1 (.slice a l.length c) l.length (I64 l)
theorem feT_nil (ty : TypeId) (w w' : World) : FeT ty w w' (.agg #[.slice none 0 0]) [] := ⟨none, 0, rfl, World.ownsRow_nil _ _ _ _⟩
theorem feT_16 {ty : TypeId} {w w' : World} {a : Option Addr} {c : Nat} {l : List Int} (hl : l.length = 16) (h : w'.ownsRow w.heap.size ty 1 (.slice a 16 c) 16 (I64 l)) : FeT ty w w' (.agg #[.slice a 16 c]) l := ⟨a, c, by rw [hl], by rw [hl]; exact h⟩
end Go.Proofs.YtihoaakbkffejaaDoor
namespace Go.Proofs.YtihoaakbkffejaaDoor
open Go.RowKit

end Go.Proofs.YtihoaakbkffejaaDoor
namespace Go.Proofs.YtihoaakbkffejaaDoor
open Go.RowKit



end Go.Proofs.YtihoaakbkffejaaDoor

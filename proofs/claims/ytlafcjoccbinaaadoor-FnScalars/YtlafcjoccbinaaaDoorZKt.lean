/-
  What is proved here: plain mathematics of the laws of multipliers; what the program's six functions are asked to keep there (contracts, as premises).
-/
import Derived.Test.YtlafcjoccbinaaaDoorZKs
import Derived.Test.YtlafcjoccbinaaaDoorZRbt
import Derived.Test.YtlafcjoccbinaaaDoorZZrr
namespace Go.Proofs.YtlafcjoccbinaaaDoor
open Go.RowKit
set_option maxRecDepth 100000

theorem sc2_ok {f : Int → Int → Int} {xs ys : List Int} (h1 : scOk xs = true) (h2 : scOk ys = true) : sc2 f xs ys = redO (f (val xs) (val ys)) := by unfold sc2; rw [h1, h2]; rfl
theorem sc2_no {f : Int → Int → Int} {xs ys : List Int} (h : (scOk xs && scOk ys) = false) : sc2 f xs ys = [] := by unfold sc2; rw [h]; rfl
theorem btO_ok {l : List Int} (h : scOk l = true) : btFO l = btL l ∧ (btL l).length = 32 ∧ rdOkO (btL l) = true ∧ rdFO (btL l) = l := by
  obtain ⟨hl, hm, hv⟩ := (scOk_iff l).1 h
  have e : (btL l).length = 32 := by rw [btL_len, hl]
  have ho : rdOkO (btL l) = true := by unfold rdOkO; rw [rd_bt hl, e]; simp [hv]
  exact ⟨by unfold btFO; rw [h]; rfl, e, ho, by unfold rdFO; rw [ho, rd_bt hl]; rfl⟩
theorem rdO_ok {bs : List Int} (h : rdOkO bs = true) (hb : ∀ x ∈ bs, 0 ≤ x ∧ x < 256) : scOk (rdFO bs) = true ∧ btFO (rdFO bs) = bs ∧ (rdFO bs).length = 16 := by
  have hf : rdFO bs = rdL bs := by unfold rdFO; rw [h]; rfl
  unfold rdOkO at h
  simp only [Bool.and_eq_true, decide_eq_true_eq] at h
  have ho : scOk (rdL bs) = true := (scOk_iff _).2 ⟨rdL_len _, rdL_lm hb, h.2⟩
  rw [hf]
  exact ⟨ho, by rw [(btO_ok ho).1, bt_rd h.1 hb], rdL_len _⟩
theorem rdO_no {bs : List Int} (h : rdOkO bs = false) : rdFO bs = [] := by unfold rdFO; rw [h]; rfl
/-- The bytes of one. -/
def oneB : List Int := [1] ++ List.replicate 31 0
theorem oneB_len : oneB.length = 32 := rfl
theorem oneB_byte : ∀ x ∈ oneB, 0 ≤ x ∧ x < 256 := by unfold oneB; decide
theorem oneB_rd : rdOkO oneB = true ∧ rdFO oneB = redO 1 := by decide
theorem oneB_val : val (redO 1) = 1 := by decide
theorem gD_l {a b : List Int} {i : Nat} (h : i < a.length) : (a ++ b).getD i 0 = a.getD i 0 := by rw [List.getD, List.getD, List.getElem?_append_left h]
theorem gD_r {a b : List Int} {i : Nat} (h : a.length ≤ i) : (a ++ b).getD i 0 = b.getD (i - a.length) 0 := by rw [List.getD, List.getD, List.getElem?_append_right h]
theorem wd_bt {l : List Int} (hl : l.length = 16) : wdL (btL l ++ List.replicate 32 0) = l ++ List.replicate 16 0 := by
  have hb : (btL l).length = 32 := by rw [btL_len, hl]
  refine ext32 (n := 32) (wdL_len _) (by simp [hl]) fun i hi => ?_
  rw [wdL_get _ _ hi]
  by_cases h : i < 16
  · have h1 := btL_get l i (by omega)
    rw [gD_l (by omega), gD_l (by omega), h1.1, h1.2, gD_l (by omega)]
    omega
  · rw [gD_r (by omega), gD_r (by omega), gD_r (by omega)]
    have z : ∀ (m k : Nat), (List.replicate m (0 : Int)).getD k 0 = 0 := fun m k => by
      rw [List.getD, List.getElem?_replicate]; split <;> rfl
    rw [z, z, z]
    rfl
theorem val_zeros : ∀ n : Nat, val (List.replicate n 0) = 0
  | 0 => rfl
  | n + 1 => by rw [List.replicate_succ]; show 0 + 65536 * val (List.replicate n 0) = 0; rw [val_zeros n]; rfl
theorem val_app0 : ∀ (l : List Int) (n : Nat), val (l ++ List.replicate n 0) = val l
  | [], n => by rw [List.nil_append, val_zeros]; rfl
  | x :: l, n => by show x + 65536 * val (l ++ List.replicate n 0) = x + 65536 * val l; rw [val_app0 l n]
theorem wdO_ok {l : List Int} (h : scOk l = true) : wdOk (btL l ++ List.replicate 32 0) = true ∧ wdF (btL l ++ List.replicate 32 0) = l := by
  have hl := ((scOk_iff l).1 h).1
  have ho : wdOk (btL l ++ List.replicate 32 0) = true := by unfold wdOk; simp [btL_len, hl]
  exact ⟨ho, by unfold wdF; rw [ho, if_pos rfl, wd_bt hl, val_app0, redO_val h]⟩
theorem wdF_ok {bs : List Int} (h : wdOk bs = true) : scOk (wdF bs) = true := by unfold wdF; rw [h]; exact redO_ok _
theorem wdF_no {bs : List Int} (h : wdOk bs = false) : wdF bs = [] := by unfold wdF; rw [h]; rfl
theorem redO_mul (x y : Int) : redO (x % qO * y) = redO (x * y) := by unfold redO; rw [Int.mul_emod, Int.emod_emod, ← Int.mul_emod]
theorem redO_add (x y : Int) : redO (x % qO + y % qO) = redO (x + y) := by unfold redO; rw [← Int.add_emod]

/-- What is asked of ScAdd and ScMul, wherever the program's variables hold what Vs says. -/
def CTwo (Vs : World → Prop) (fn : Nat) (f : Int → Int → Int) : Prop := ∀ (a : Option Addr) (n c : Nat) (xs : List Int) (b : Option Addr) (m d : Nat) (ys : List Int) (Z : World), Is Z a n c xs → Is Z b m d ys → Vs Z →
  Calls Tryd.prog fn #[.agg #[.slice a n c], .agg #[.slice b m d]] Z fun e w' => ∃ v, e = .returned (.tuple #[v, .bool (scOk xs && scOk ys)]) ∧ FeR w' v (sc2 f xs ys) ∧ Below Z.heap.size Z w'
/-- And of ScRead and ScWide. -/
def CRd (Vs : World → Prop) (fn : Nat) (R : List Int → Bool) (L : List Int → List Int) : Prop := ∀ (a : Option Addr) (n c : Nat) (bs : List Int) (Z : World), Bs Z a n c bs → Vs Z →
  Calls Tryd.prog fn #[.slice a n c] Z fun e w' => ∃ v, e = .returned (.tuple #[v, .bool (R bs)]) ∧ FeR w' v (L bs) ∧ Below Z.heap.size Z w'
/-- And of ScOk. -/
def COk (Vs : World → Prop) (fn : Nat) : Prop := ∀ (a : Option Addr) (n c : Nat) (xs : List Int) (Z : World), Is Z a n c xs → Vs Z →
  Calls Tryd.prog fn #[.agg #[.slice a n c]] Z fun e w' => e = .returned (.bool (scOk xs)) ∧ Below Z.heap.size Z w'
/-- And of ScBytes. -/
def CBt (Vs : World → Prop) (fn : Nat) : Prop := ∀ (a : Option Addr) (n c : Nat) (xs : List Int) (Z : World), Is Z a n c xs → Vs Z →
  Calls Tryd.prog fn #[.agg #[.slice a n c]] Z fun e w' => ∃ a' c', e = .returned (.slice a' (btFO xs).length c') ∧ Bs w' a' (btFO xs).length c' (btFO xs) ∧ Below Z.heap.size Z w'
theorem CTwo.ok {Vs : World → Prop} {fn : Nat} {f : Int → Int → Int} {R : List Int} (H : CTwo Vs fn f) (a : Option Addr) (n c : Nat) (xs : List Int) (b : Option Addr) (m d : Nat) (ys : List Int) (Z : World) (hx : Is Z a n c xs) (hy : Is Z b m d ys) (hV : Vs Z) (h1 : scOk xs = true) (h2 : scOk ys = true) (hR : redO (f (val xs) (val ys)) = R) :
    Calls Tryd.prog fn #[.agg #[.slice a n c], .agg #[.slice b m d]] Z fun e w' => ∃ a' c', e = .returned (.tuple #[.agg #[.slice a' 16 c'], .bool true]) ∧ Is w' a' 16 c' R ∧ Below Z.heap.size Z w' := by
  refine (H a n c xs b m d ys Z hx hy hV).mono ?_
  rintro e w1 ⟨v, rfl, ⟨a', c', rfl, hi⟩, hb⟩
  have hl : R.length = 16 := by rw [← hR]; exact redO_len _
  rw [sc2_ok h1 h2, hR, hl] at hi
  exact ⟨a', c', by rw [sc2_ok h1 h2, hR, hl, h1, h2]; rfl, hi, hb⟩
theorem CRd.ok {Vs : World → Prop} {fn : Nat} {R : List Int → Bool} {L : List Int → List Int} {X : List Int} (H : CRd Vs fn R L) (a : Option Addr) (n c : Nat) (bs : List Int) (Z : World) (hx : Bs Z a n c bs) (hV : Vs Z) (h1 : R bs = true) (h2 : L bs = X) (hl : X.length = 16) :
    Calls Tryd.prog fn #[.slice a n c] Z fun e w' => ∃ a' c', e = .returned (.tuple #[.agg #[.slice a' 16 c'], .bool true]) ∧ Is w' a' 16 c' X ∧ Below Z.heap.size Z w' := by
  refine (H a n c bs Z hx hV).mono ?_
  rintro e w1 ⟨v, rfl, ⟨a', c', rfl, hi⟩, hb⟩
  rw [h2, hl] at hi
  exact ⟨a', c', by rw [h2, hl, h1], hi, hb⟩
/-- The bytes of one, made with append. -/
theorem mk_one (w : World) (ty : TypeId) : ∃ v w', (Builtin.append_ #[22, 3] ty #[.slice (some ⟨w.heap.size, 0, none⟩) 1 1, .int .i64 31]).run Tryd.prog (w.alloc (.cells #[.int .u8 1] 5)) = .ok v w' ∧ (∃ a c, v = .slice a 32 c ∧ Bs w' a 32 c oneB) ∧ Below w.heap.size w w' := by
  have ho : (w.alloc (.cells #[.int .u8 1] 5)).ownsRow w.heap.size 5 1 (.slice (some ⟨w.heap.size, 0, none⟩) 1 1) 1 (U8 [1]) := World.ownsRow_lit (base := w.heap.size) (e := 5) (size := 1) w #[.int .u8 1] 1 (Nat.le_refl _) (by unfold maxLen; omega) rfl
  obtain ⟨v, w', hr, o', g'⟩ := run_zeros _ _ _ 1 [1] 31 ty ho (by omega) (by omega) (by simp)
  obtain ⟨a, c, e1, _, hi⟩ := Bs.own o' (show ∀ x ∈ [1] ++ List.replicate 31 (0 : Int), 0 ≤ x ∧ x < 256 from oneB_byte)
  exact ⟨v, w', hr, ⟨a, c, e1, hi⟩, ((Below.refl _ _).alloc (Nat.le_refl _) _).grown g' (by simp) (fun k hk => by cases hk; exact Nat.le_refl _)⟩
/-- Two appends onto an empty slice that was just made. -/
theorem bel_two {V wE wF : World} {o : Obj} {g B n e : Nat} {vE : Value} {xs : List Value} (h2 : (V.alloc o).grownBy wE (Value.slice (some ⟨g, 0, none⟩) 0 0).ownBlock) (hg : V.heap.size ≤ g) (h1 : wE.ownsRow B e 1 vE n xs) (hB : V.heap.size ≤ B) (gF : wE.grownBy wF vE.ownBlock) : Below V.heap.size V wF := by
  have b1 : Below V.heap.size V wE := ((Below.refl _ _).alloc (Nat.le_refl _) _).grown h2 (by simp) (fun k hk => by have h3 : some g = some k := hk; have := Option.some.inj h3; omega)
  exact b1.grown gF b1.size (fun k hk => Nat.le_trans hB (h1.lt k hk).1)
end Go.Proofs.YtlafcjoccbinaaaDoor

/-
  What is proved here: the contract of the program's method carried on limbs: what is too much is; a load of a long array under a guard; contracts of the specification's l6bytes and PtBytes: the bytes of a point; the bytes of a point are bytes, at most 32; sums and doubles of points as the program makes them in the long form; contracts of the program's method below on limbs: which of two numbers is; contracts of the program's methods plus, minus and lessOnce on limbs.
-/
import Derived.Test.YtihoaakbkffejaaGreatDoorFUff
import Derived.Test.YtihoaakbkffejaaGreatDoorFFm
import Derived.Test.YtihoaakbkffejaaGreatDoorFFsc
import Derived.BigFrame
import Derived.Test.YtihoaakbkffejaaGreatDoorFUc
import Derived.Test.YtihoaakbkffejaaGreatDoorFHbt
import Derived.Laws.BitsLemmas
namespace Go.Proofs.YtihoaakbkffejaaGreatDoor
open Go.RowKit
set_option maxRecDepth 100000

theorem infoL : (Tryz.prog.info? 65).map (·.size) = some 16 := by kernel_rfl

set_option maxHeartbeats 2000000 in
theorem implCarried (l : List Int) (w : World) (hl : l.length = 16) (hc : Cb l) :
  Calls Tryz.prog 133 #[.agg (I64 l).toArray] w fun e w' => e = .returned (.agg (I64 (crd l)).toArray) ∧ Below w.heap.size w w' := by
 obtain ⟨A, hA⟩ : ∃ A, A = (I64 l).toArray := ⟨_, rfl⟩
 rw [← hA]
 obtain ⟨W, hW⟩ : ∃ W, W = (w.alloc (.cells A 65)).alloc (.cells (I64 Z16).toArray 65) := ⟨_, rfl⟩
 have h0 : Arr W w.heap.size 65 (I64 (cra l 0)) := by rw [hW, hA, cra_zero hl]; exact (Arr.new w (I64 l) _).alloc _
 have h1 : Arr W (w.heap.size + 1) 65 (I64 Z16) := by
  rw [hW]
  have := Arr.new (w.alloc (.cells A 65)) (I64 Z16) 65
  rw [World.size_alloc] at this
  exact this
 have hBl : Below w.heap.size w W := by rw [hW]; exact ((Below.refl _ _).alloc (Nat.le_refl _) _).alloc (by simp) _
 have HC : Hid _ := hc
 clear hA hc
 go_enter Tryz.func133, Tryz.ntmps133
 go_wp2
 go_loopw [4] (fun i wr => ∃ k : Nat, k ≤ 15 ∧ i = .int .i64 k ∧ Arr wr w.heap.size 65 (I64 (cra l k)) ∧ Arr wr (w.heap.size + 1) 65 (I64 Z16) ∧ Below w.heap.size w wr) (fun i _ => 15 - (intOf i).toNat)
 case atStart => exact ⟨0, by omega, rfl, hW ▸ h0, hW ▸ h1, hW ▸ hBl⟩
 case round =>
  clear h0 h1 hBl hW
  obtain ⟨k, hk, rfl, h0, h1, hBl⟩ := hrel
  have hcl := cra_len hl (show k < 16 by omega)
  by_cases hlt : k < 15
  ·obtain ⟨hx, hy⟩ := cra_at hl hlt
   have hst := cra_step hl hlt
   have hnb := HC.out (k + 1) (by omega)
   rw [crx_next hl hlt] at hnb
   obtain ⟨x, hxx⟩ : ∃ x, x = crx l k := ⟨_, rfl⟩
   obtain ⟨y, hyy⟩ : ∃ y, y = l.getD (k + 1) 0 := ⟨_, rfl⟩
   rw [← hxx] at hx hst hnb
   rw [← hyy] at hy hst hnb
   have cx : wr.cell? ⟨w.heap.size, k, none⟩ = some (.int .i64 x) := by rw [h0.i64 k (by omega), hx]
   have cy : wr.cell? ⟨w.heap.size, k + 1, none⟩ = some (.int .i64 y) := by rw [h0.i64 (k + 1) (by omega), hy]
   have hf0 := h0.frozen (k + 1)
   have hk15 : (k : Int) < 15 := by omega
   have hk16 : (k : Int) < 16 := by omega
   have hk0 : (0 : Int) ≤ (k : Int) := by omega
   have s1 : IntKind.i64.wrap ((k : Int) + 1) = (k : Int) + 1 := by rw [IntKind.wrap_i64]; omega
   have s2 : ((k : Int) + 1).toNat = k + 1 := by omega
   have s3 : (k : Int) + 1 < 16 := by omega
   have s4 : (0 : Int) ≤ (k : Int) + 1 := by omega
   have s5 : IntKind.i64.wrap (y + x / 65536) = y + x / 65536 := by rw [IntKind.wrap_i64]; omega
   have s6 : bits .and .i64 x 65535 = x % 65536 := i64_and16 x
   have e1 := h0.set (k + 1) (.int .i64 (y + x / 65536))
   have e2 := e1.set k (.int .i64 (x % 65536))
   rw [hst] at e2
   have cx2 : (wr.setCell ⟨w.heap.size, k + 1, none⟩ (.int .i64 (y + x / 65536))).drew.cell? ⟨w.heap.size, k, none⟩ = some (.int .i64 x) := by
    show (wr.setCell ⟨w.heap.size, k + 1, none⟩ (.int .i64 (y + x / 65536))).cell? ⟨w.heap.size, k, none⟩ = some (.int .i64 x)
    rw [e1.cell k, List.getElem?_set_ne (by omega), ← h0.cell k]; exact cx
   have hf2 := e1.drew.frozen k
   have f2 := (h1.other ⟨w.heap.size, k + 1, none⟩ (.int .i64 (y + x / 65536)) (by simp)).other ⟨w.heap.size, k, none⟩ (.int .i64 (x % 65536)) (by simp)
   have fB := (hBl.setCell (p := ⟨w.heap.size, k + 1, none⟩) (Nat.le_refl _) (.int .i64 (y + x / 65536))).setCell (p := ⟨w.heap.size, k, none⟩) (Nat.le_refl _) (.int .i64 (x % 65536))
   have H0 : Hid _ := e2.drew
   have H1 : Hid _ := f2.drew
   have HB : Hid _ := fB.drew
   clear e1 e2 f2 fB h0 h1 hBl hx hy hst hxx hyy hcl
   go_wp2
   go_region
   clear cx cy hf0
   go_wp2
   go_roundw
   case rel => exact ⟨k + 1, by omega, by go_num, H0.out, H1.out, HB.out⟩
   case measure => simp [intOf]; omega
  ·obtain rfl : k = 15 := by omega
   rw [cra_end hl] at h0
   have hRl := crd_len hl
   obtain ⟨R, hR⟩ : ∃ R, R = crd l := ⟨_, rfl⟩
   rw [← hR] at h0 hRl
   have HR : Hid _ := hR
   have h2 := h1.row (I64 R)
   have hb2 := setRow_below hBl (w.heap.size + 1) (I64 R).toArray (by omega)
   clear hR hcl HC
   go_wp2_with (first
    | (refine wpList_load_row rfl 65 _ rfl w.heap.size rfl 65 (I64 R).toArray (0, 0) _ h0 Tryz.underlying65 rfl (by simpa [hRl] using infoL) ?_)
    | (refine wpList_store_row rfl 65 _ _ rfl (w.heap.size + 1) (I64 R).toArray rfl rfl 65 _ h1 (by simpa [hRl] using infoL) (by simp [hRl]) (by simp [Value.oneCell']) ?_))
   exact bodyPost_ret (results_cell_row rfl _ _ (w.heap.size + 1) 65 (I64 R).toArray (0, 0) _ rfl h2 Tryz.underlying65 rfl (by simpa [hRl] using infoL)) rfl ⟨by rw [HR.out], hb2⟩
theorem wpList_load_rowW {P : Program} {ops : Array Oper} {rest : List Oper} {o : Oper} {a : Act} {w : World} {Q : Exit → Act → World → Prop} (hw : Region.wanted o (yielded ops a.tmps) = true) (ty : TypeId) (x : Operand) (ho : o.op = .load ty x)
  (g : Nat) (hx : a.eval x = .pointer (some ⟨g, 0, none⟩)) (t : TypeId) (cs : Array Value) (fr : Nat × Nat) (d : TypeDesc) (hg : w.heap[g]? = some (.cells cs t fr))
  (hu : P.underlying ty = some d) (hd : (match d with | .struct _ | .array _ _ => true | _ => false) = true) (hi : (P.info? ty).map (·.size) = some cs.size)
  (h : wpList P ops Q rest (a.put o.dst (.agg cs)) w) : wpList P ops Q (o :: rest) a w :=
 BigFrame.wpList_want hw fun _ hK => wp_load_row ty x ho g hx t cs fr d hg hu hd hi (hK _ _ h)

theorem laid_new (w1 : World) (L : List Int) : Below w1.heap.size w1 ((w1.alloc (.cells zV 65)).setRow w1.heap.size (I64 L).toArray) ∧ Arr ((w1.alloc (.cells zV 65)).setRow w1.heap.size (I64 L).toArray) w1.heap.size 65 (I64 L) ∧ Arr (w1.alloc (.cells zV 65)) w1.heap.size 65 (I64 Z16) := by
 have q : Arr (w1.alloc (.cells zV 65)) w1.heap.size 65 (I64 Z16) := Arr.new w1 (I64 Z16) _
 exact ⟨setRow_below ((Below.refl _ _).alloc (Nat.le_refl _) _) _ _ (Nat.le_refl _), q.row _, q⟩
def ptBt (x y : List Int) : List Int := (btL y).set 31 ((btL y).getD 31 0 + x.getD 0 0 % 2 * 128)
theorem ptBt_len {x y : List Int} (h : y.length = 16) : (ptBt x y).length = 32 := by simp [ptBt, btL_len, h]
theorem or_top : ∀ t : Fin 128, bits .or .u8 ((t.val : Nat) : Int) 128 = ((t.val : Nat) : Int) + 128 := by decide
theorem or_none : ∀ t : Fin 128, bits .or .u8 ((t.val : Nat) : Int) 0 = ((t.val : Nat) : Int) := by decide
theorem or_bit {t p : Int} (h0 : 0 ≤ t) (h1 : t < 128) (p0 : 0 ≤ p) (p1 : p ≤ 1) : bits .or .u8 t (p * 128) = t + p * 128 := by
 obtain ⟨n, rfl⟩ := Int.eq_ofNat_of_zero_le h0
 have hn : n < 128 := by omega
 have a := or_top ⟨n, hn⟩
 have b := or_none ⟨n, hn⟩
 have hp : p = 0 ∨ p = 1 := by omega
 rcases hp with rfl | rfl
 ·rw [Int.zero_mul, Int.add_zero]; exact b
 ·rw [Int.one_mul]; exact a
theorem bt_top {y : List Int} (h : feOk y = true) : 0 ≤ (btL y).getD 31 0 ∧ (btL y).getD 31 0 < 128 := by
 obtain ⟨h1, h2, h3⟩ := (feOk_iff y).1 h
 have h15 := gD_lm h2 15
 have e : (btL y).getD 31 0 = y.getD 15 0 / 256 := (btL_get y 15 (by omega)).2
 have h0 := val_nonneg (l := y.take 15) (fun x hx => (h2 x (List.mem_of_mem_take hx)).1)
 rw [val_last h1, p240] at h3
 unfold P25519 at h3
 rw [e]
 omega

set_option maxHeartbeats 4000000 in
theorem spec6bytes (P : E4) (w : World) (hP : P.Ok) :
  Calls Tryz.prog 54 #[.agg (I64 P.cells).toArray] w fun e w' => ∃ v, e = .returned v ∧ w'.ownsRow w.heap.size 5 1 v 32 (U8 (ptBt (flx P) (fly P))) ∧ Below w.heap.size w w' := by
 have HF : Hid (∀ Z, Calls Tryz.prog 94 #[.agg (I64 P.cells).toArray] Z fun e w' => e = .returned (.tuple #[.agg (I64 (flx P)).toArray, .agg (I64 (fly P)).toArray]) ∧ Below Z.heap.size Z w') := by
  unfold Hid; intro Z; exact spec6flat P Z hP
 obtain ⟨x, ex⟩ : ∃ x, x = flx P := ⟨_, rfl⟩
 have kx : feOk x = true := by rw [ex]; exact ok_red _
 obtain ⟨y, ey⟩ : ∃ y, y = fly P := ⟨_, rfl⟩
 have ky : feOk y = true := by rw [ey]; exact ok_red _
 rw [← ex, ← ey] at HF ⊢
 have jx := infoE' kx
 have jy := infoE' ky
 have nx := feOk_len kx
 have ny := feOk_len ky
 have my := feOk_lm' ky
 have hip := infoP' hP
 have hx0 := gD_lm (feOk_lm' kx) 0
 have hty := bt_top ky
 obtain ⟨A, hA⟩ : ∃ A, A = (I64 P.cells).toArray := ⟨_, rfl⟩
 obtain ⟨W, hW⟩ : ∃ W, W = w.alloc (.cells A 86) := ⟨_, rfl⟩
 have fr : Below w.heap.size w W := by rw [hW]; exact (Below.refl _ _).alloc (Nat.le_refl _) _
 have pa : Arr W w.heap.size 86 (I64 P.cells) := by rw [hW, hA]; exact Arr.new w (I64 P.cells) _
 rw [← hA]
 clear ex ey hA
 go_enter Tryz.func54, Tryz.ntmps54
 go_upto_region 1 with fail
 rw [← hW]
 clear hW
 go_wp2_with (refine wpList_load_row rfl 86 _ rfl w.heap.size rfl 86 (I64 P.cells).toArray (0, 0) _ pa Tryz.underlying86 rfl hip ?_)
 refine (HF.out _).mono ?_
 rintro e y1 ⟨rfl, hb1⟩
 replace fr := fr.trans (hb1.mono fr.size)
 replace pa := pa.kept hb1
 clear hb1
 have hz0 : w.heap.size < y1.heap.size := pa.lt
 clear pa
 obtain ⟨bV, Ax, Ay, q1, q2⟩ := laid_e2 y1 x y
 replace fr := fr.trans (bV.mono fr.size)
 go_upto_region 2 with (first | (refine wpList_store_row rfl 80 _ _ rfl y1.heap.size (I64 x).toArray rfl rfl 80 _ q1 jx (by simp [nx]) (by simp [Value.oneCell']) ?_) | (refine wpList_store_row rfl 80 _ _ rfl (y1.heap.size + 1) (I64 y).toArray rfl rfl 80 _ q2 jy (by simp [ny]) (by simp [Value.oneCell']) ?_))
 obtain ⟨Vq, hVV⟩ : ∃ V, V = (((y1.alloc (.cells zV 80)).alloc (.cells zV 80)).setRow y1.heap.size (I64 x).toArray).setRow (y1.heap.size + 1) (I64 y).toArray := ⟨_, rfl⟩
 obtain ⟨X, hE⟩ : ∃ E, E = y1.heap.size := ⟨_, rfl⟩
 rw [← hVV] at fr Ax Ay ⊢
 rw [← hE] at Ax Ay hz0 ⊢
 clear hVV hE q1 q2 bV
 go_wp2_with (refine wpList_load_row rfl 80 _ rfl (X + 1) rfl 80 (I64 y).toArray (0, 0) _ Ay Tryz.underlying80 rfl jy ?_)
 have hl : w.heap.size ≤ Vq.heap.size := fr.size
 refine (specBytes16 y _ ny my).mono ?_
 rintro e y2 ⟨v, rfl, ob, hb2⟩
 replace fr := fr.trans (hb2.mono fr.size)
 replace Ax := Ax.kept hb2
 replace Ay := Ay.kept hb2
 clear hb2
 rcases (own_shape ob).2 with ⟨_, h0⟩ | ⟨g, cap, rfl, hbg, hgl, hcap, _, hcell, hfz⟩
 ·omega
 obtain ⟨t, ht⟩ : ∃ t, t = (btL y).getD 31 0 := ⟨_, rfl⟩
 obtain ⟨x0, hx0e⟩ : ∃ x0, x0 = x.getD 0 0 := ⟨_, rfl⟩
 obtain ⟨p, hp⟩ : ∃ p, p = x0 % 2 := ⟨_, rfl⟩
 rw [← ht] at hty
 rw [← hx0e] at hx0
 have cb : y2.cell? ⟨g, 31, none⟩ = some (.int .u8 t) := by rw [ht]; exact hcell 31 (by omega)
 have cx0 : y2.cell? ⟨X, 0, none⟩ = some (.int .i64 x0) := by rw [hx0e]; exact Ax.i64 0 (by omega)
 have hf := hfz 31
 have s1 : bits .and .i64 x0 1 = p := by rw [hp]; exact i64_lowb hx0.1 (by omega)
 have pb : 0 ≤ p ∧ p ≤ 1 := by rw [hp]; omega
 have s2 : IntKind.u8.wrap p = p := by rw [IntKind.wrap_u8]; omega
 have s3 : IntKind.u8.wrap (p * 128) = p * 128 := by rw [IntKind.wrap_u8]; omega
 have s4 : bits .or .u8 t (p * 128) = t + p * 128 := or_bit hty.1 hty.2 pb.1 pb.2
 have hw : (U8 (btL y)).set 31 (.int .u8 (t + p * 128)) = U8 (ptBt x y) := by
  unfold ptBt
  rw [← ht, ← hx0e, ← hp]
  simp [U8]
 have HO : Hid _ := own_base (own_at ob 31 (.int .u8 (t + p * 128))) hl
 have HB : Hid _ := fr.setCell (p := ⟨g, 31, none⟩) (by simp only; omega) (.int .u8 (t + p * 128))
 rw [hw] at HO
 clear hcell hfz ob hw ht hx0e hp
 go_wp2
 go_region
 go_wp2
 go_ret
 exact ⟨_, rfl, HO.out, HB.out.drew⟩

def ptBF (xs ys : List Int) : List Int := if ptOk xs ys = true then ptBt (flx (mk6 xs ys)) (fly (mk6 xs ys)) else []
end Go.Proofs.YtihoaakbkffejaaGreatDoor
namespace Go.Proofs.YtihoaakbkffejaaGreatDoor
open Go.RowKit
theorem ptBt_byte {x y : List Int} (h : feOk y = true) : ∀ b ∈ ptBt x y, 0 ≤ b ∧ b < 256 := by
 intro b hb
 have ht := bt_top h
 unfold ptBt at hb
 rcases List.mem_or_eq_of_mem_set hb with h1 | rfl
 ·exact btL_byte (feOk_lm' h) b h1
 ·omega
end Go.Proofs.YtihoaakbkffejaaGreatDoor
namespace Go.Proofs.YtihoaakbkffejaaGreatDoor
open Go.RowKit
set_option maxRecDepth 100000
set_option maxHeartbeats 4000000
set_option linter.unusedSectionVars false

section
variable {p : Nat} [NeZero p] {d i : Fin p} {iv : Fin p → Fin p}
theorem jnF (x1 y1 c1 x2 y2 c2 : Fin p) : x1 * c1 * (y2 * c2) + y1 * c1 * (x2 * c2) = c1 * c2 * (x1 * y2 + y1 * x2) := by grind
theorem jnK (x1 y1 c1 x2 y2 c2 : Fin p) : y1 * c1 * (y2 * c2) + x1 * c1 * (x2 * c2) = c1 * c2 * (y1 * y2 + x1 * x2) := by grind
theorem jnH (x1 y1 c1 x2 y2 c2 d : Fin p) : c1 * c2 + d * (x1 * y1 * c1 * (x2 * y2 * c2)) = c1 * c2 * (1 + d * (x1 * x2 * y1 * y2)) := by grind
theorem jnG (x1 y1 c1 x2 y2 c2 d : Fin p) : c1 * c2 - d * (x1 * y1 * c1 * (x2 * y2 * c2)) = c1 * c2 * (1 - d * (x1 * x2 * y1 * y2)) := by grind
theorem jn2 {f v : Fin p} (hv : f * v = 1) (k b g : Fin p) : k * b * (k * g) = b * v * (k * f * (k * g)) := by grind
theorem Ext.long (C : Crv d i iv) {P Q : Fin p × Fin p} (o1 : On d P) (o2 : On d Q) {k F K H G : Fin p} (hk : k ≠ 0) (hF : F = k * (P.1 * Q.2 + P.2 * Q.1)) (hK : K = k * (P.2 * Q.2 + P.1 * Q.1))
  (hH : H = k * (1 + d * (P.1 * Q.1 * P.2 * Q.2))) (hG : G = k * (1 - d * (P.1 * Q.1 * P.2 * Q.2))) : Ext (F * G) (K * H) (G * H) (F * K) (pAdd d iv P Q) := by
 obtain ⟨x1, y1⟩ := P
 obtain ⟨x2, y2⟩ := Q
 have hn := C.ne o1 o2
 have hu := C.inv _ hn.1
 have hv := C.inv _ hn.2
 simp only at hF hK hH hG
 have hz : G * H ≠ 0 := by
  rw [hG, hH]
  exact C.nz_mul (C.nz_mul hk hn.2) (C.nz_mul hk hn.1)
 clear hn o1 o2
 simp only [pAdd]
 generalize iv (1 + d * (x1 * x2 * y1 * y2)) = u at *
 generalize iv (1 - d * (x1 * x2 * y1 * y2)) = v at *
 refine ⟨?_, ?_, ?_, hz⟩
 ·rw [hF, hG, hH]; exact ext1 hu _ _ _
 ·rw [hK, hG, hH]; exact jn2 hv _ _ _
 ·rw [hF, hK, hG, hH]; exact ext3 hu hv _ _ _
theorem Ext.join (C : Crv d i iv) {a1 b1 c1 t1 a2 b2 c2 t2 : Fin p} {P Q : Fin p × Fin p} (h1 : Ext a1 b1 c1 t1 P) (h2 : Ext a2 b2 c2 t2 Q) (o1 : On d P) (o2 : On d Q) :
  Ext ((a1 * b2 + b1 * a2) * (c1 * c2 - d * (t1 * t2))) ((b1 * b2 + a1 * a2) * (c1 * c2 + d * (t1 * t2))) ((c1 * c2 - d * (t1 * t2)) * (c1 * c2 + d * (t1 * t2))) ((a1 * b2 + b1 * a2) * (b1 * b2 + a1 * a2)) (pAdd d iv P Q) := by
 refine Ext.long C o1 o2 (C.nz_mul h1.hc h2.hc) ?_ ?_ ?_ ?_
 ·rw [h1.ha, h1.hb, h2.ha, h2.hb]; exact jnF ..
 ·rw [h1.ha, h1.hb, h2.ha, h2.hb]; exact jnK ..
 ·rw [h1.ht, h2.ht]; exact jnH ..
 ·rw [h1.ht, h2.ht]; exact jnG ..
theorem dbF (x y c : Fin p) : x * c * (y * c) + x * c * (y * c) = c * c * (x * y + y * x) := by grind
theorem dbK (x y c : Fin p) : x * c * (x * c) + y * c * (y * c) = c * c * (y * y + x * x) := by grind
theorem dbH (x y c d : Fin p) (h : y * y - x * x = 1 + d * (x * x) * (y * y)) : y * c * (y * c) - x * c * (x * c) = c * c * (1 + d * (x * x * y * y)) := by
 have e : y * c * (y * c) - x * c * (x * c) = c * c * (y * y - x * x) := by grind
 rw [e, h]
 grind
theorem dbG (x y c d : Fin p) : c * c + c * c - c * c * (1 + d * (x * x * y * y)) = c * c * (1 - d * (x * x * y * y)) := by grind
theorem Ext.twice (C : Crv d i iv) {a b c t : Fin p} {P : Fin p × Fin p} (h : Ext a b c t P) (o : On d P) :
  Ext ((a * b + a * b) * (c * c + c * c - (b * b - a * a))) ((a * a + b * b) * (b * b - a * a)) ((c * c + c * c - (b * b - a * a)) * (b * b - a * a)) ((a * b + a * b) * (a * a + b * b)) (pAdd d iv P P) := by
 have e : b * b - a * a = c * c * (1 + d * (P.1 * P.1 * P.2 * P.2)) := by rw [h.ha, h.hb]; exact dbH _ _ _ _ o
 refine Ext.long C o o (C.nz_mul h.hc h.hc) ?_ ?_ ?_ ?_
 ·rw [h.ha, h.hb]; exact dbF ..
 ·rw [h.ha, h.hb]; exact dbK ..
 ·exact e
 ·rw [e]; exact dbG ..
end
def long6 (f k h g : List Int) : E4 := ⟨red (val f * val g), red (val k * val h), red (val g * val h), red (val f * val k)⟩
theorem long6_ok (f k h g : List Int) : (long6 f k h g).Ok := ⟨ok_red _, ok_red _, ok_red _, ok_red _⟩
def join6 (P Q : E4) : E4 :=
 let one := red (val P.c * val Q.c)
 let prod := red (val DL * val (red (val P.t * val Q.t)))
 long6 (red (val (red (val P.a * val Q.b)) + val (red (val P.b * val Q.a)))) (red (val (red (val P.b * val Q.b)) + val (red (val P.a * val Q.a)))) (red (val one + val prod)) (red (val one - val prod))
def dbl6 (P : E4) : E4 :=
 let xx := red (val P.a * val P.a)
 let yy := red (val P.b * val P.b)
 let one := red (val P.c * val P.c)
 let xy := red (val P.a * val P.b)
 let plus := red (val yy - val xx)
 long6 (red (val xy + val xy)) (red (val xx + val yy)) plus (red (val (red (val one + val one)) - val plus))
section
variable [NeZero pN]
theorem ext6_join {P Q : E4} {p q : KF × KF} (h1 : Ext6 P p) (h2 : Ext6 Q q) (o1 : On dK p) (o2 : On dK q) : Ext6 (join6 P Q) (pAdd dK ivK p q) := by
 unfold Ext6 join6 long6
 simp only [fl_mul, fl_add, fl_sub, fl_DL]
 exact Ext.join crvK h1 h2 o1 o2
theorem ext6_dbl {P : E4} {p : KF × KF} (h : Ext6 P p) (o : On dK p) : Ext6 (dbl6 P) (pAdd dK ivK p p) := by
 unfold Ext6 dbl6 long6
 simp only [fl_mul, fl_add, fl_sub]
 exact Ext.twice crvK h o
end
def jst (P : E4) (N : Nat) : Nat → E4
 | 0 => mk6 (lim 16 0) (lim 16 1)
 | n + 1 => if N / 2 ^ (252 - n) % 2 = 1 then join6 (dbl6 (jst P N n)) P else dbl6 (jst P N n)
theorem jst_ok (P : E4) (N : Nat) : ∀ n, (jst P N n).Ok
 | 0 => mk6_ok zero_ok one_ok
 | n + 1 => by
  rw [jst]
  split
  ·exact long6_ok _ _ _ _
  ·exact long6_ok _ _ _ _
def jul6 (P : E4) (N : Nat) : E4 := jst P N 253
section
variable [NeZero pN]
theorem ext6_jst {P : E4} {p : KF × KF} (h : Ext6 P p) (o : On dK p) (N : Nat) (hN : N < 2 ^ 253) : ∀ n, n ≤ 253 → Ext6 (jst P N n) (pMul dK ivK (N / 2 ^ (253 - n)) p)
 | 0, _ => by
  have e : N / 2 ^ (253 - 0) = 0 := Nat.div_eq_of_lt hN
  rw [e]
  exact ext6_zero
 | n + 1, hn => by
  have ih := ext6_jst h o N hN n (by omega)
  have hb := crvK.mul_bit o N (252 - n)
  have e1 : 253 - (n + 1) = 252 - n := by omega
  have e2 : 253 - n = 252 - n + 1 := by omega
  rw [e2] at ih
  rw [e1, hb, jst]
  have om := crvK.on_mul o (N / 2 ^ (252 - n + 1))
  split
  ·exact ext6_join (ext6_dbl ih om) h (crvK.on_add om om) o
  ·exact ext6_dbl ih om
theorem ext6_jul {P : E4} {p : KF × KF} (h : Ext6 P p) (o : On dK p) (N : Nat) (hN : N < 2 ^ 253) : Ext6 (jul6 P N) (pMul dK ivK N p) := by
 have := ext6_jst h o N hN 253 (by omega)
 rw [Nat.sub_self, Nat.pow_zero, Nat.div_one] at this
 exact this
end
set_option maxHeartbeats 1000000 in
theorem implBelow (a b : List Int) (w : World) (ha : a.length = 16) (hb : b.length = 16) (la : Lm a) (lb : Lm b) :
  Calls Tryz.prog 97 #[.agg (I64 a).toArray, .agg (I64 b).toArray] w fun e w' => e = .returned (.bool (decide (val a < val b))) ∧ Below w.heap.size w w' := by
 obtain ⟨A, hA⟩ : ∃ A, A = (I64 a).toArray := ⟨_, rfl⟩
 obtain ⟨B, hB⟩ : ∃ B, B = (I64 b).toArray := ⟨_, rfl⟩
 rw [← hA, ← hB]
 obtain ⟨W, hW⟩ : ∃ W, W = (w.alloc (.cells A 65)).alloc (.cells B 65) := ⟨_, rfl⟩
 have h0 : Arr W w.heap.size 65 (I64 a) := by rw [hW, hA]; exact (Arr.new w (I64 a) _).alloc _
 have h1 : Arr W (w.heap.size + 1) 65 (I64 b) := by
  rw [hW, hB]
  have := Arr.new (w.alloc (.cells A 65)) (I64 b) 65
  rw [World.size_alloc] at this
  exact this
 have hBl : Below w.heap.size w W := by rw [hW]; exact ((Below.refl _ _).alloc (Nat.le_refl _) _).alloc (by simp) _
 obtain ⟨r, hr⟩ : ∃ r, r = decide (val a < val b) := ⟨_, rfl⟩
 rw [← hr]
 have HR : Hid _ := hr
 have HA : Hid _ := hA
 have HB' : Hid _ := hB
 clear hr hA hB
 go_enter Tryz.func97, Tryz.ntmps97
 go_wp2
 rw [← hW]
 clear hW
 go_loopw [5] (fun i wr => ∃ (k : Nat) (j : Int), k ≤ 16 ∧ j = 15 - (k : Int) ∧ i = .int .i64 j ∧ a.drop (16 - k) = b.drop (16 - k) ∧ Arr wr w.heap.size 65 (I64 a) ∧ Arr wr (w.heap.size + 1) 65 (I64 b) ∧ Below w.heap.size w wr) (fun i _ => (intOf i + 1).toNat)
 case atStart => exact ⟨0, 15, by omega, by omega, rfl, by rw [List.drop_eq_nil_of_le (by omega), List.drop_eq_nil_of_le (by omega)], h0, h1, hBl⟩
 case round =>
  clear h0 h1 hBl
  obtain ⟨k, j, hk, hj, rfl, hd, h0, h1, hBl⟩ := hrel
  by_cases hlt : k < 16
  ·obtain ⟨i, rfl⟩ : ∃ i : Nat, j = (i : Int) := ⟨15 - k, by omega⟩
   have hi : 16 - k = i + 1 := by omega
   rw [hi] at hd
   obtain ⟨x, hx⟩ : ∃ x, x = a.getD i 0 := ⟨_, rfl⟩
   obtain ⟨y, hy⟩ : ∃ y, y = b.getD i 0 := ⟨_, rfl⟩
   have cx : wr.cell? ⟨w.heap.size, i, none⟩ = some (.int .i64 x) := by rw [hx]; exact h0.i64 i (by omega)
   have cy : wr.cell? ⟨w.heap.size + 1, i, none⟩ = some (.int .i64 y) := by rw [hy]; exact h1.i64 i (by omega)
   have hi16 : (i : Int) < 16 := by omega
   have hi0 : (0 : Int) ≤ (i : Int) := by omega
   have s5 : wrap64 ((i : Int) - 1) = (i : Int) - 1 := by unfold wrap64; omega
   have HJ : Hid _ := hj
   by_cases hne : x = y
   ·have hd' : a.drop i = b.drop i := by
     rw [List.drop_eq_getElem_cons (by omega), List.drop_eq_getElem_cons (l := b) (by omega), hd]
     have e1 : a[i] = x := by rw [hx]; simp [show i < a.length by omega]
     have e2 : b[i] = y := by rw [hy]; simp [show i < b.length by omega]
     rw [e1, e2, hne]
    have HD : Hid (a.drop (16 - (k + 1)) = b.drop (16 - (k + 1))) := by unfold Hid; rw [show 16 - (k + 1) = i by omega]; exact hd'
    subst hne
    clear hd hd' hx hy hj hi
    go_wp2
    go_quiet (fail)
    go_wp2
    go_roundw
    case rel => exact ⟨k + 1, (i : Int) - 1, by omega, by have := HJ.out; omega, by go_num, HD.out, h0.drewN _, h1.drewN _, bel_dN hBl _⟩
    case measure => simp [intOf]
   ·have hv := lt_at ha hb la lb (i := i) (by omega) hd (by rw [← hx, ← hy]; exact hne)
    rw [← hx, ← hy] at hv
    have hrr : decide (x < y) = r := by rw [HR.out]; simp only [hv]
    have HRR : Hid _ := hrr
    have hne' : (x != y) = true := by simp [hne]
    clear hd hx hy hj hi hv hrr
    go_wp2
    go_quiet (fail)
    go_wp2
    go_quiet (fail)
    go_wp2
    go_ret
    refine ⟨?_, bel_dN (bel_dN hBl _) _⟩
    rw [← HRR.out]
    rfl
  ·obtain rfl : k = 16 := by omega
   have hj0 : ¬ (0 : Int) ≤ j := by omega
   have hab : a = b := by simpa using hd
   have hrf : r = false := by rw [HR.out, hab]; simp
   clear hd hj
   go_wp2
   go_ret
   exact ⟨rfl, hBl⟩
theorem infoL1 : (Tryz.prog.info? 3).map (·.size) = some 1 := by kernel_rfl
theorem zip_bd {f : Int → Int → Int} (hf : ∀ x y, 0 ≤ x → x < 65536 → 0 ≤ y → y < 65536 → -4611686018427387904 ≤ f x y ∧ f x y < 4611686018427387904) {a b : List Int} (ha : Lm a) (hb : Lm b) : ∀ z ∈ List.zipWith f a b, -4611686018427387904 ≤ z ∧ z < 4611686018427387904 := by
 intro z hz
 obtain ⟨i, hi⟩ := List.mem_iff_getElem?.1 hz
 rw [List.getElem?_zipWith] at hi
 split at hi
 ·rename_i p q h1 h2
  have h3 := ha _ (List.mem_of_getElem? h1)
  have h4 := hb _ (List.mem_of_getElem? h2)
  simp only [Option.some.injEq] at hi
  rw [← hi]
  exact hf p q h3.1 h3.2 h4.1 h4.2
 ·cases hi
theorem zip_at (f : Int → Int → Int) {a b : List Int} (ha : a.length = 16) (hb : b.length = 16) (k : Nat) (hk : k < 16) : (List.zipWith f a b).getD k 0 = f (a.getD k 0) (b.getD k 0) := by
 simp [List.getD, List.getElem?_zipWith, show k < a.length by omega, show k < b.length by omega]

set_option maxHeartbeats 2000000 in
theorem implPlus (a b : List Int) (w : World) (ha : a.length = 16) (hb : b.length = 16) (la : Lm a) (lb : Lm b) :
  Calls Tryz.prog 125 #[.agg (I64 a).toArray, .agg (I64 b).toArray] w fun e w' => e = .returned (.agg (I64 (crd (List.zipWith (fun x y => x + y) a b))).toArray) ∧ Below w.heap.size w w' := by
 obtain ⟨A, hA⟩ : ∃ A, A = (I64 a).toArray := ⟨_, rfl⟩
 rw [← hA]
 obtain ⟨zs, hzs⟩ : ∃ zs, zs = List.zipWith (fun x y => x + y) a b := ⟨_, rfl⟩
 have hzl : zs.length = 16 := by rw [hzs]; simp [ha, hb]
 have hzc : Cb zs := by rw [hzs]; exact cb_of (zip_bd (fun x y _ _ _ _ => by omega) la lb)
 have hzx : ∀ k, k < 16 → zs.getD k 0 = a.getD k 0 + b.getD k 0 := by
  intro k hk
  rw [hzs]
  exact zip_at _ ha hb k hk
 rw [← hzs]
 have HZX : Hid _ := hzx
 have HZC : Hid (∀ Z, Calls Tryz.prog 133 #[.agg (I64 zs).toArray] Z fun e w' => e = .returned (.agg (I64 (crd zs)).toArray) ∧ Below Z.heap.size Z w') := by
  unfold Hid; intro Z; exact implCarried zs Z hzl hzc
 clear hzs hzx hzc
 obtain ⟨W, hW⟩ : ∃ W, W = ((w.alloc (.cells A 65)).alloc (.cells (I64 b).toArray 65)).alloc (.cells zV 65) := ⟨_, rfl⟩
 have h0 : Arr W w.heap.size 65 (I64 (zs.take 0 ++ a.drop 0)) := by rw [hW, hA]; exact ((Arr.new w (I64 a) _).alloc _).alloc _
 have h1 : Arr W (w.heap.size + 1) 65 (I64 b) := by
  rw [hW]
  have := (Arr.new (w.alloc (.cells A 65)) (I64 b) 65).alloc (.cells (I64 Z16).toArray 65)
  rw [World.size_alloc] at this
  exact this
 have h2 : Arr W (w.heap.size + 2) 65 (I64 Z16) := by
  rw [hW]
  have := Arr.new ((w.alloc (.cells A 65)).alloc (.cells (I64 b).toArray 65)) (I64 Z16) 65
  rw [World.size_alloc, World.size_alloc] at this
  exact this
 have hBl : Below w.heap.size w W := by rw [hW]; exact (((Below.refl _ _).alloc (Nat.le_refl _) _).alloc (by simp) _).alloc (by simp; omega) _
 obtain ⟨B, hB⟩ : ∃ B, B = (I64 b).toArray := ⟨_, rfl⟩
 rw [← hB] at hW ⊢
 have HBB : Hid _ := hB
 have h1' := hW ▸ h1
 clear hA hB
 go_enter Tryz.func125, Tryz.ntmps125
 go_wp2_with (refine wpList_load_row rfl 65 _ rfl (w.heap.size + 1) rfl 65 (I64 b).toArray (0, 0) _ h1' Tryz.underlying65 rfl (by simpa [hb] using infoL) ?_)
 rw [← hW]
 clear hW h1'
 go_loopw [8] (fun i wr => ∃ k : Nat, k ≤ 16 ∧ i = .int .i64 k ∧ Arr wr w.heap.size 65 (I64 (zs.take k ++ a.drop k)) ∧ Arr wr (w.heap.size + 2) 65 (I64 Z16) ∧ Below w.heap.size w wr) (fun i _ => 16 - (intOf i).toNat)
 case atStart => exact ⟨0, by omega, rfl, h0, h2, hBl⟩
 case round =>
  clear h0 h1 h2 hBl
  obtain ⟨k, hk, rfl, h0, h2, hBl⟩ := hrel
  have hfl : (zs.take k).length = k := by simp; omega
  by_cases hlt : k < 16
  ·obtain ⟨x, hx⟩ : ∃ x, x = a.getD k 0 := ⟨_, rfl⟩
   obtain ⟨y, hy⟩ : ∃ y, y = b.getD k 0 := ⟨_, rfl⟩
   have ix := fun w => index_arr Tryz.underlying65 Tryz.underlying3 infoL1 b hb k hlt w
   rw [← hy] at ix
   have cx : wr.cell? ⟨w.heap.size, k, none⟩ = some (.int .i64 x) := by
    rw [h0.i64 k (by rw [len_app hfl (by omega)]; omega), get_app hfl, hx]
   have bx := gD_lm la k
   have by' := gD_lm lb k
   rw [← hx] at bx
   rw [← hy] at by'
   have hz := HZX.out k hlt
   rw [← hx, ← hy] at hz
   have hts := take_app zs k (by omega)
   rw [hz] at hts
   have hfz := h0.frozen k
   have h0' := h0.set k (.int .i64 (x + y))
   rw [set_app hfl (show k < a.length by omega), ← hts] at h0'
   have h2' := h2.other ⟨w.heap.size, k, none⟩ (.int .i64 (x + y)) (by simp)
   have hb' := hBl.setCell (p := ⟨w.heap.size, k, none⟩) (Nat.le_refl _) (.int .i64 (x + y))
   have s1 : IntKind.i64.wrap (x + y) = x + y := by rw [IntKind.wrap_i64]; omega
   have hk16 : (k : Int) < 16 := by omega
   have hk0 : (0 : Int) ≤ (k : Int) := by omega
   have H0 : Hid _ := h0'
   have H2 : Hid _ := h2'
   have HB : Hid _ := hb'
   clear h0' h2' hb' h0 h2 hBl hx hy hz hts
   go_wp2
   go_roundw
   case rel => exact ⟨k + 1, by omega, by go_num, H0.out, H2.out, HB.out⟩
   case measure => simp [intOf]; omega
  ·obtain rfl : k = 16 := by omega
   rw [List.take_of_length_le (by omega), List.drop_eq_nil_of_le (by omega), List.append_nil] at h0
   clear hfl
   go_wp2_with (refine wpList_load_row rfl 65 _ rfl w.heap.size rfl 65 (I64 zs).toArray (0, 0) _ h0 Tryz.underlying65 rfl (by simpa [hzl] using infoL) ?_)
   refine (HZC.out _).mono ?_
   rintro e w1 ⟨rfl, hb1⟩
   have h21 := h2.kept hb1
   have hB1 := hBl.trans (hb1.mono hBl.size)
   have hRl := crd_len hzl
   obtain ⟨R, hR⟩ : ∃ R, R = crd zs := ⟨_, rfl⟩
   rw [← hR] at hRl ⊢
   have HR : Hid _ := hR
   have h22 := h21.row (I64 R)
   have hb2 := setRow_below hB1 (w.heap.size + 2) (I64 R).toArray (by omega)
   clear hR h0 h2 hBl hb1 HZC
   go_wp2_with (refine wpList_store_row rfl 65 _ _ rfl (w.heap.size + 2) (I64 R).toArray rfl rfl 65 _ h21 (by simpa [hRl] using infoL) (by simp [hRl]) (by simp [Value.oneCell']) ?_)
   exact bodyPost_ret (results_cell_row rfl _ _ (w.heap.size + 2) 65 (I64 R).toArray (0, 0) _ rfl h22 Tryz.underlying65 rfl (by simpa [hRl] using infoL)) rfl ⟨by rw [HR.out], hb2⟩

set_option maxHeartbeats 2000000 in
theorem implMinus (a b : List Int) (w : World) (ha : a.length = 16) (hb : b.length = 16) (la : Lm a) (lb : Lm b) :
  Calls Tryz.prog 129 #[.agg (I64 a).toArray, .agg (I64 b).toArray] w fun e w' => e = .returned (.agg (I64 (crd (List.zipWith (fun x y => x - y) a b))).toArray) ∧ Below w.heap.size w w' := by
 obtain ⟨A, hA⟩ : ∃ A, A = (I64 a).toArray := ⟨_, rfl⟩
 rw [← hA]
 obtain ⟨zs, hzs⟩ : ∃ zs, zs = List.zipWith (fun x y => x - y) a b := ⟨_, rfl⟩
 have hzl : zs.length = 16 := by rw [hzs]; simp [ha, hb]
 have hzc : Cb zs := by rw [hzs]; exact cb_of (zip_bd (fun x y _ _ _ _ => by omega) la lb)
 have hzx : ∀ k, k < 16 → zs.getD k 0 = a.getD k 0 - b.getD k 0 := by
  intro k hk
  rw [hzs]
  exact zip_at _ ha hb k hk
 rw [← hzs]
 have HZX : Hid _ := hzx
 have HZC : Hid (∀ Z, Calls Tryz.prog 133 #[.agg (I64 zs).toArray] Z fun e w' => e = .returned (.agg (I64 (crd zs)).toArray) ∧ Below Z.heap.size Z w') := by
  unfold Hid; intro Z; exact implCarried zs Z hzl hzc
 clear hzs hzx hzc
 obtain ⟨W, hW⟩ : ∃ W, W = ((w.alloc (.cells A 65)).alloc (.cells (I64 b).toArray 65)).alloc (.cells zV 65) := ⟨_, rfl⟩
 have h0 : Arr W w.heap.size 65 (I64 (zs.take 0 ++ a.drop 0)) := by rw [hW, hA]; exact ((Arr.new w (I64 a) _).alloc _).alloc _
 have h1 : Arr W (w.heap.size + 1) 65 (I64 b) := by
  rw [hW]
  have := (Arr.new (w.alloc (.cells A 65)) (I64 b) 65).alloc (.cells (I64 Z16).toArray 65)
  rw [World.size_alloc] at this
  exact this
 have h2 : Arr W (w.heap.size + 2) 65 (I64 Z16) := by
  rw [hW]
  have := Arr.new ((w.alloc (.cells A 65)).alloc (.cells (I64 b).toArray 65)) (I64 Z16) 65
  rw [World.size_alloc, World.size_alloc] at this
  exact this
 have hBl : Below w.heap.size w W := by rw [hW]; exact (((Below.refl _ _).alloc (Nat.le_refl _) _).alloc (by simp) _).alloc (by simp; omega) _
 obtain ⟨B, hB⟩ : ∃ B, B = (I64 b).toArray := ⟨_, rfl⟩
 rw [← hB] at hW ⊢
 have HBB : Hid _ := hB
 have h1' := hW ▸ h1
 clear hA hB
 go_enter Tryz.func129, Tryz.ntmps129
 go_wp2_with (refine wpList_load_row rfl 65 _ rfl (w.heap.size + 1) rfl 65 (I64 b).toArray (0, 0) _ h1' Tryz.underlying65 rfl (by simpa [hb] using infoL) ?_)
 rw [← hW]
 clear hW h1'
 go_loopw [8] (fun i wr => ∃ k : Nat, k ≤ 16 ∧ i = .int .i64 k ∧ Arr wr w.heap.size 65 (I64 (zs.take k ++ a.drop k)) ∧ Arr wr (w.heap.size + 2) 65 (I64 Z16) ∧ Below w.heap.size w wr) (fun i _ => 16 - (intOf i).toNat)
 case atStart => exact ⟨0, by omega, rfl, h0, h2, hBl⟩
 case round =>
  clear h0 h1 h2 hBl
  obtain ⟨k, hk, rfl, h0, h2, hBl⟩ := hrel
  have hfl : (zs.take k).length = k := by simp; omega
  by_cases hlt : k < 16
  ·obtain ⟨x, hx⟩ : ∃ x, x = a.getD k 0 := ⟨_, rfl⟩
   obtain ⟨y, hy⟩ : ∃ y, y = b.getD k 0 := ⟨_, rfl⟩
   have ix := fun w => index_arr Tryz.underlying65 Tryz.underlying3 infoL1 b hb k hlt w
   rw [← hy] at ix
   have cx : wr.cell? ⟨w.heap.size, k, none⟩ = some (.int .i64 x) := by
    rw [h0.i64 k (by rw [len_app hfl (by omega)]; omega), get_app hfl, hx]
   have bx := gD_lm la k
   have by' := gD_lm lb k
   rw [← hx] at bx
   rw [← hy] at by'
   have hz := HZX.out k hlt
   rw [← hx, ← hy] at hz
   have hts := take_app zs k (by omega)
   rw [hz] at hts
   have hfz := h0.frozen k
   have h0' := h0.set k (.int .i64 (x - y))
   rw [set_app hfl (show k < a.length by omega), ← hts] at h0'
   have h2' := h2.other ⟨w.heap.size, k, none⟩ (.int .i64 (x - y)) (by simp)
   have hb' := hBl.setCell (p := ⟨w.heap.size, k, none⟩) (Nat.le_refl _) (.int .i64 (x - y))
   have s1 : IntKind.i64.wrap (x - y) = x - y := by rw [IntKind.wrap_i64]; omega
   have hk16 : (k : Int) < 16 := by omega
   have hk0 : (0 : Int) ≤ (k : Int) := by omega
   have H0 : Hid _ := h0'
   have H2 : Hid _ := h2'
   have HB : Hid _ := hb'
   clear h0' h2' hb' h0 h2 hBl hx hy hz hts
   go_wp2
   go_roundw
   case rel => exact ⟨k + 1, by omega, by go_num, H0.out, H2.out, HB.out⟩
   case measure => simp [intOf]; omega
  ·obtain rfl : k = 16 := by omega
   rw [List.take_of_length_le (by omega), List.drop_eq_nil_of_le (by omega), List.append_nil] at h0
   clear hfl
   go_wp2_with (refine wpList_load_row rfl 65 _ rfl w.heap.size rfl 65 (I64 zs).toArray (0, 0) _ h0 Tryz.underlying65 rfl (by simpa [hzl] using infoL) ?_)
   refine (HZC.out _).mono ?_
   rintro e w1 ⟨rfl, hb1⟩
   have h21 := h2.kept hb1
   have hB1 := hBl.trans (hb1.mono hBl.size)
   have hRl := crd_len hzl
   obtain ⟨R, hR⟩ : ∃ R, R = crd zs := ⟨_, rfl⟩
   rw [← hR] at hRl ⊢
   have HR : Hid _ := hR
   have h22 := h21.row (I64 R)
   have hb2 := setRow_below hB1 (w.heap.size + 2) (I64 R).toArray (by omega)
   clear hR h0 h2 hBl hb1 HZC
   go_wp2_with (refine wpList_store_row rfl 65 _ _ rfl (w.heap.size + 2) (I64 R).toArray rfl rfl 65 _ h21 (by simpa [hRl] using infoL) (by simp [hRl]) (by simp [Value.oneCell']) ?_)
   exact bodyPost_ret (results_cell_row rfl _ _ (w.heap.size + 2) 65 (I64 R).toArray (0, 0) _ rfl h22 Tryz.underlying65 rfl (by simpa [hRl] using infoL)) rfl ⟨by rw [HR.out], hb2⟩

theorem plus_lim {a b : List Int} (ha : a.length = 16) (hb : b.length = 16) (h0 : 0 ≤ val a + val b) (h1 : val a + val b < 115792089237316195423570985008687907853269984665640564039457584007913129639936) : crd (List.zipWith (fun x y => x + y) a b) = lim 16 (val a + val b) := by
 have e := zipAdd_val a b (by omega)
 rw [crd_lim (by simp [ha, hb]) (by rw [e]; exact h0) (by rw [e]; exact h1), e]
theorem minus_lim {a b : List Int} (ha : a.length = 16) (hb : b.length = 16) (h0 : 0 ≤ val a - val b) (h1 : val a - val b < 115792089237316195423570985008687907853269984665640564039457584007913129639936) : crd (List.zipWith (fun x y => x - y) a b) = lim 16 (val a - val b) := by
 have e := zipSub_val a b (by omega)
 rw [crd_lim (by simp [ha, hb]) (by rw [e]; exact h0) (by rw [e]; exact h1), e]
theorem val256 {a : List Int} (ha : a.length = 16) (la : Lm a) : 0 ≤ val a ∧ val a < 115792089237316195423570985008687907853269984665640564039457584007913129639936 := by
 have h1 := val_lt la
 rw [ha, p256] at h1
 exact ⟨val_nonneg (fun x hx => (la x hx).1), h1⟩

structure L3 (w W : World) (a b : List Int) : Prop where
 fr : Below w.heap.size w W
 pa : Arr W w.heap.size 65 (I64 a)
 pb : Arr W (w.heap.size + 1) 65 (I64 b)
 pr : Arr W (w.heap.size + 2) 65 (I64 Z16)
theorem L3.go {w A B : World} {a b : List Int} (h : L3 w A a b) (hb : Below A.heap.size A B) : L3 w B a b := ⟨h.fr.trans (hb.mono h.fr.size), h.pa.kept hb, h.pb.kept hb, h.pr.kept hb⟩
theorem L3.new (w : World) (a b : List Int) : L3 w (((w.alloc (.cells (I64 a).toArray 65)).alloc (.cells (I64 b).toArray 65)).alloc (.cells (I64 Z16).toArray 65)) a b := by
 refine ⟨(((Below.refl _ _).alloc (Nat.le_refl _) _).alloc (by simp) _).alloc (by simp; omega) _, ((Arr.new w (I64 a) _).alloc _).alloc _, ?_, ?_⟩
 ·have := (Arr.new (w.alloc (.cells (I64 a).toArray 65)) (I64 b) 65).alloc (.cells (I64 Z16).toArray 65)
  rw [World.size_alloc] at this
  exact this
 ·have := Arr.new ((w.alloc (.cells (I64 a).toArray 65)).alloc (.cells (I64 b).toArray 65)) (I64 Z16) 65
  rw [World.size_alloc, World.size_alloc] at this
  exact this

set_option maxHeartbeats 2000000 in
theorem implLess (a b : List Int) (w : World) (ha : a.length = 16) (hb : b.length = 16) (la : Lm a) (lb : Lm b) :
  Calls Tryz.prog 126 #[.agg (I64 a).toArray, .agg (I64 b).toArray] w fun e w' => e = .returned (.agg (I64 (lim 16 (if val a < val b then val a else val a - val b))).toArray) ∧ Below w.heap.size w w' := by
 obtain ⟨R, hR⟩ : ∃ R, R = lim 16 (if val a < val b then val a else val a - val b) := ⟨_, rfl⟩
 have hRl : R.length = 16 := by rw [hR]; exact lim_len _ _
 rw [← hR]
 obtain ⟨d, hd⟩ : ∃ d, d = decide (val a < val b) := ⟨_, rfl⟩
 have v1 := val256 ha la
 have v2 := val256 hb lb
 have HY : Hid (d = true → R = a) := by
  unfold Hid; intro h
  have h' : val a < val b := by rw [hd] at h; simpa using h
  have := lim_val a la
  rw [ha] at this
  rw [hR, if_pos h', this]
 have HN : Hid (d = false → ∀ Z, Calls Tryz.prog 129 #[.agg (I64 a).toArray, .agg (I64 b).toArray] Z fun e w' => e = .returned (.agg (I64 R).toArray) ∧ Below Z.heap.size Z w') := by
  unfold Hid; intro h Z
  have h' : ¬ val a < val b := by rw [hd] at h; simpa using h
  have := implMinus a b Z ha hb la lb
  rw [minus_lim ha hb (by omega) (by omega)] at this
  rw [hR, if_neg h']
  exact this
 have HB : Hid (∀ Z, Calls Tryz.prog 97 #[.agg (I64 a).toArray, .agg (I64 b).toArray] Z fun e w' => e = .returned (.bool d) ∧ Below Z.heap.size Z w') := by
  unfold Hid; intro Z; rw [hd]; exact implBelow a b Z ha hb la lb
 clear hd hR v1 v2
 obtain ⟨W, hW⟩ : ∃ W, W = ((w.alloc (.cells (I64 a).toArray 65)).alloc (.cells (I64 b).toArray 65)).alloc (.cells zV 65) := ⟨_, rfl⟩
 have EE : L3 w W a b := by rw [hW]; exact L3.new w a b
 obtain ⟨A, hA⟩ : ∃ A, A = (I64 a).toArray := ⟨_, rfl⟩
 obtain ⟨B, hB⟩ : ∃ B, B = (I64 b).toArray := ⟨_, rfl⟩
 rw [← hA, ← hB] at hW ⊢
 clear hA hB
 have hia : (Tryz.prog.info? 65).map (·.size) = some (I64 a).toArray.size := by simpa [ha] using infoL
 have hib : (Tryz.prog.info? 65).map (·.size) = some (I64 b).toArray.size := by simpa [hb] using infoL
 have E0 := hW ▸ EE
 go_enter Tryz.func126, Tryz.ntmps126
 go_wp2_with (first
  | (refine wpList_load_row rfl 65 _ rfl w.heap.size rfl 65 (I64 a).toArray (0, 0) _ E0.pa Tryz.underlying65 rfl hia ?_)
  | (refine wpList_load_row rfl 65 _ rfl (w.heap.size + 1) rfl 65 (I64 b).toArray (0, 0) _ E0.pb Tryz.underlying65 rfl hib ?_))
 rw [← hW]
 clear hW E0
 refine (HB.out _).mono ?_
 rintro e w1 ⟨rfl, hb1⟩
 replace EE := EE.go hb1
 clear hb1
 cases d with
 | true =>
  obtain rfl : R = a := HY.out rfl
  clear HY HN HB
  have hr := EE.pr.row (I64 R)
  have hbl := setRow_below EE.fr (w.heap.size + 2) (I64 R).toArray (by omega)
  go_wp2_with (first
   | (refine wpList_load_row rfl 65 _ rfl w.heap.size rfl 65 (I64 R).toArray (0, 0) _ EE.pa Tryz.underlying65 rfl hia ?_)
   | (refine wpList_store_row rfl 65 _ _ rfl (w.heap.size + 2) (I64 R).toArray rfl rfl 65 _ EE.pr hia (by simp [hRl]) (by simp [Value.oneCell']) ?_))
  exact bodyPost_ret (results_cell_row rfl _ _ (w.heap.size + 2) 65 (I64 R).toArray (0, 0) _ rfl hr Tryz.underlying65 rfl hia) rfl ⟨rfl, hbl⟩
 | false =>
  have hm := HN.out rfl
  have HM : Hid _ := hm
  clear HY HN HB hm
  go_wp2_with (first
   | (refine wpList_load_row rfl 65 _ rfl w.heap.size rfl 65 (I64 a).toArray (0, 0) _ EE.pa Tryz.underlying65 rfl hia ?_)
   | (refine wpList_load_row rfl 65 _ rfl (w.heap.size + 1) rfl 65 (I64 b).toArray (0, 0) _ EE.pb Tryz.underlying65 rfl hib ?_))
  refine (HM.out _).mono ?_
  rintro e w2 ⟨rfl, hb2⟩
  replace EE := EE.go hb2
  clear hb2 HM
  have hr := EE.pr.row (I64 R)
  have hbl := setRow_below EE.fr (w.heap.size + 2) (I64 R).toArray (by omega)
  have hiR : (Tryz.prog.info? 65).map (·.size) = some (I64 R).toArray.size := by simpa [hRl] using infoL
  go_wp2_with (refine wpList_store_row rfl 65 _ _ rfl (w.heap.size + 2) (I64 R).toArray rfl rfl 65 _ EE.pr hiR (by simp [hRl]) (by simp [Value.oneCell']) ?_)
  exact bodyPost_ret (results_cell_row rfl _ _ (w.heap.size + 2) 65 (I64 R).toArray (0, 0) _ rfl hr Tryz.underlying65 rfl hiR) rfl ⟨rfl, hbl⟩
end Go.Proofs.YtihoaakbkffejaaGreatDoor

/-
  What is proved here: contracts of the specification's l6bytes and PtBytes: the bytes of a point.
-/
import Derived.Test.YtoblilngppjmhaaDoorZUf
import Derived.Test.YtoblilngppjmhaaDoorZUg
import Derived.Test.YtoblilngppjmhaaDoorZUi
import Derived.Test.YtoblilngppjmhaaDoorZJa
import Derived.Test.YtoblilngppjmhaaDoorZHrd
import Derived.Test.YtoblilngppjmhaaDoorZJrd
import Derived.Laws.BitsLemmas
namespace Go.Proofs.YtoblilngppjmhaaDoor
open Go.RowKit
set_option maxRecDepth 100000

theorem own_at {W : World} {b e g n cap : Nat} {xs : List Value} (h : W.ownsRow b e 1 (.slice (some ⟨g, 0, none⟩) n cap) n xs) (j : Nat) (u : Value) : (W.setCell ⟨g, j, none⟩ u).ownsRow b e 1 (.slice (some ⟨g, 0, none⟩) n cap) n (xs.set j u) := by
  refine ⟨by simpa using h.1, ?_⟩
  rcases h.2 with ⟨hn, _⟩ | ⟨g', cap', cur, he, hg, hgg, h1, h2, h3, h4⟩
  · cases hn
  · cases he
    exact .inr ⟨g, cap, cur.setIfInBounds j u, rfl, hg, heap_setCell_same W g j cur e u hgg, h1, h2, by simpa using h3, by rw [Array.toList_setIfInBounds, List.take_set, h4]⟩
/-- The bytes of a point: those of y, the highest bit telling whether x is odd. -/
def ptBt (x y : List Int) : List Int := (btL y).set 31 ((btL y).getD 31 0 + x.getD 0 0 % 2 * 128)
theorem ptBt_len {x y : List Int} (h : y.length = 16) : (ptBt x y).length = 32 := by simp [ptBt, btL_len, h]
theorem or_top : ∀ t : Fin 128, bits .or .u8 ((t.val : Nat) : Int) 128 = ((t.val : Nat) : Int) + 128 := by decide
theorem or_none : ∀ t : Fin 128, bits .or .u8 ((t.val : Nat) : Int) 0 = ((t.val : Nat) : Int) := by decide
theorem or_bit {t p : Int} (h0 : 0 ≤ t) (h1 : t < 128) (p0 : 0 ≤ p) (p1 : p ≤ 1) : bits .or .u8 t (p * 128) = t + p * 128 := by
  obtain ⟨n, rfl⟩ := Int.eq_ofNat_of_zero_le h0
  have hn : n < 128 := by omega
  have a := or_top ⟨n, hn⟩
  have b := or_none ⟨n, hn⟩
  have hp : p = 0 ∨ p = 1 := by omega
  rcases hp with rfl | rfl
  · rw [Int.zero_mul, Int.add_zero]; exact b
  · rw [Int.one_mul]; exact a
/-- The highest byte of a number of the field. -/
theorem bt_top {y : List Int} (h : feOk y = true) : 0 ≤ (btL y).getD 31 0 ∧ (btL y).getD 31 0 < 128 := by
  obtain ⟨h1, h2, h3⟩ := (feOk_iff y).1 h
  have h15 := gD_lm h2 15
  have e : (btL y).getD 31 0 = y.getD 15 0 / 256 := (btL_get y 15 (by omega)).2
  have h0 := val_nonneg (l := y.take 15) (fun x hx => (h2 x (List.mem_of_mem_take hx)).1)
  rw [val_last h1, p240] at h3
  unfold P25519 at h3
  rw [e]
  omega

set_option maxHeartbeats 4000000 in
theorem spec6bytes (P : E4) (w : World) (hP : P.Ok) :
    Calls Tryd.prog 78 #[.agg (I64 P.cells).toArray] w fun e w' => ∃ v, e = .returned v ∧ w'.ownsRow w.heap.size 5 1 v 32 (U8 (ptBt (flx P) (fly P))) ∧ Below w.heap.size w w' := by
  have HF : Hid (∀ Z, Calls Tryd.prog 123 #[.agg (I64 P.cells).toArray] Z fun e w' => e = .returned (.tuple #[.agg (I64 (flx P)).toArray, .agg (I64 (fly P)).toArray]) ∧ Below Z.heap.size Z w') := by
    unfold Hid; intro Z; exact spec6flat P Z hP
  obtain ⟨x, ex⟩ : ∃ x, x = flx P := ⟨_, rfl⟩
  have kx : feOk x = true := by rw [ex]; exact ok_red _
  obtain ⟨y, ey⟩ : ∃ y, y = fly P := ⟨_, rfl⟩
  have ky : feOk y = true := by rw [ey]; exact ok_red _
  rw [← ex, ← ey] at HF ⊢
  have jx := infoE' kx
  have jy := infoE' ky
  have nx := feOk_len kx
  have ny := feOk_len ky
  have my := feOk_lm' ky
  have hip := infoP' hP
  have hx0 := gD_lm (feOk_lm' kx) 0
  have hty := bt_top ky
  obtain ⟨A, hA⟩ : ∃ A, A = (I64 P.cells).toArray := ⟨_, rfl⟩
  obtain ⟨W, hW⟩ : ∃ W, W = w.alloc (.cells A 108) := ⟨_, rfl⟩
  have fr : Below w.heap.size w W := by rw [hW]; exact (Below.refl _ _).alloc (Nat.le_refl _) _
  have pa : Arr W w.heap.size 108 (I64 P.cells) := by rw [hW, hA]; exact Arr.new w (I64 P.cells) _
  rw [← hA]
  clear ex ey hA
  go_enter Tryd.func78, Tryd.ntmps78
  go_upto_region 1 with fail
  rw [← hW]
  clear hW
  go_wp2_with (refine wpList_load_row rfl 108 _ rfl w.heap.size rfl 108 (I64 P.cells).toArray (0, 0) _ pa Tryd.underlying108 rfl hip ?_)
  refine (HF.out _).mono ?_
  rintro e y1 ⟨rfl, hb1⟩
  replace fr := fr.trans (hb1.mono fr.size)
  replace pa := pa.kept hb1
  clear hb1
  have hz0 : w.heap.size < y1.heap.size := pa.lt
  clear pa
  obtain ⟨bV, Ax, Ay, q1, q2⟩ := laid_e2 y1 x y
  replace fr := fr.trans (bV.mono fr.size)
  go_upto_region 2 with (first | (refine wpList_store_row rfl 82 _ _ rfl y1.heap.size (I64 x).toArray rfl rfl 82 _ q1 jx (by simp [nx]) (by simp [Value.oneCell']) ?_) | (refine wpList_store_row rfl 82 _ _ rfl (y1.heap.size + 1) (I64 y).toArray rfl rfl 82 _ q2 jy (by simp [ny]) (by simp [Value.oneCell']) ?_))
  obtain ⟨Vq, hVV⟩ : ∃ V, V = (((y1.alloc (.cells #[.int .i64 0, .int .i64 0, .int .i64 0, .int .i64 0, .int .i64 0, .int .i64 0, .int .i64 0, .int .i64 0, .int .i64 0, .int .i64 0, .int .i64 0, .int .i64 0, .int .i64 0, .int .i64 0, .int .i64 0, .int .i64 0] 82)).alloc (.cells #[.int .i64 0, .int .i64 0, .int .i64 0, .int .i64 0, .int .i64 0, .int .i64 0, .int .i64 0, .int .i64 0, .int .i64 0, .int .i64 0, .int .i64 0, .int .i64 0, .int .i64 0, .int .i64 0, .int .i64 0, .int .i64 0] 82)).setRow y1.heap.size (I64 x).toArray).setRow (y1.heap.size + 1) (I64 y).toArray := ⟨_, rfl⟩
  obtain ⟨X, hE⟩ : ∃ E, E = y1.heap.size := ⟨_, rfl⟩
  rw [← hVV] at fr Ax Ay ⊢
  rw [← hE] at Ax Ay hz0 ⊢
  clear hVV hE q1 q2 bV
  go_wp2_with (refine wpList_load_row rfl 82 _ rfl (X + 1) rfl 82 (I64 y).toArray (0, 0) _ Ay Tryd.underlying82 rfl jy ?_)
  have hl : w.heap.size ≤ Vq.heap.size := fr.size
  refine (specBytes16 y _ ny my).mono ?_
  rintro e y2 ⟨v, rfl, ob, hb2⟩
  replace fr := fr.trans (hb2.mono fr.size)
  replace Ax := Ax.kept hb2
  replace Ay := Ay.kept hb2
  clear hb2
  rcases (own_shape ob).2 with ⟨_, h0⟩ | ⟨g, cap, rfl, hbg, hgl, hcap, _, hcell, hfz⟩
  · omega
  obtain ⟨t, ht⟩ : ∃ t, t = (btL y).getD 31 0 := ⟨_, rfl⟩
  obtain ⟨x0, hx0e⟩ : ∃ x0, x0 = x.getD 0 0 := ⟨_, rfl⟩
  obtain ⟨p, hp⟩ : ∃ p, p = x0 % 2 := ⟨_, rfl⟩
  rw [← ht] at hty
  rw [← hx0e] at hx0
  have cb : y2.cell? ⟨g, 31, none⟩ = some (.int .u8 t) := by rw [ht]; exact hcell 31 (by omega)
  have cx0 : y2.cell? ⟨X, 0, none⟩ = some (.int .i64 x0) := by rw [hx0e]; exact Ax.i64 0 (by omega)
  have hf := hfz 31
  have s1 : bits .and .i64 x0 1 = p := by rw [hp]; exact i64_lowb hx0.1 (by omega)
  have pb : 0 ≤ p ∧ p ≤ 1 := by rw [hp]; omega
  have s2 : IntKind.u8.wrap p = p := by rw [IntKind.wrap_u8]; omega
  have s3 : IntKind.u8.wrap (p * 128) = p * 128 := by rw [IntKind.wrap_u8]; omega
  have s4 : bits .or .u8 t (p * 128) = t + p * 128 := or_bit hty.1 hty.2 pb.1 pb.2
  have hw : (U8 (btL y)).set 31 (.int .u8 (t + p * 128)) = U8 (ptBt x y) := by
    unfold ptBt
    rw [← ht, ← hx0e, ← hp]
    simp [U8]
  have HO : Hid _ := own_base (own_at ob 31 (.int .u8 (t + p * 128))) hl
  have HB : Hid _ := fr.setCell (p := ⟨g, 31, none⟩) (by simp only; omega) (.int .u8 (t + p * 128))
  rw [hw] at HO
  clear hcell hfz ob hw ht hx0e hp
  go_wp2
  go_region
  go_wp2
  go_ret
  exact ⟨_, rfl, HO.out, HB.out.drew⟩

def ptBF (xs ys : List Int) : List Int := if ptOk xs ys = true then ptBt (flx (mk6 xs ys)) (fly (mk6 xs ys)) else []
set_option maxHeartbeats 2000000 in
theorem specPtBytes (a : Option Addr) (n c : Nat) (xs : List Int) (b : Option Addr) (m d : Nat) (ys : List Int) (w : World) (hx : Is w a n c xs) (hy : Is w b m d ys) :
    Calls Tryd.prog 46 #[.agg #[.slice a n c, .slice b m d]] w fun e w' => ∃ v, e = .returned v ∧ w'.ownsRow w.heap.size 5 1 v (ptBF xs ys).length (U8 (ptBF xs ys)) ∧ Below w.heap.size w w' := by
  obtain ⟨p, hp⟩ : ∃ p, p = ptOk xs ys := ⟨_, rfl⟩
  obtain ⟨T, hT⟩ : ∃ T, T = ptBF xs ys := ⟨_, rfl⟩
  have HP : Hid (∀ Z, Below w.heap.size w Z → Calls Tryd.prog 17 #[.agg #[.slice a n c, .slice b m d]] Z fun e w' => e = .returned (.bool p) ∧ Below Z.heap.size Z w') := by
    unfold Hid; intro Z hZ; rw [hp]; exact specPtOk a n c xs b m d ys Z (hx.below hZ) (hy.below hZ)
  have HT0 : Hid (p = false → T = []) := by unfold Hid; intro h; rw [hT]; unfold ptBF; rw [← hp, h]; rfl
  have HI : Hid (p = true → ∀ Z, Below w.heap.size w Z → Calls Tryd.prog 91 #[.agg #[.slice a n c, .slice b m d]] Z fun e w' => e = .returned (.agg (I64 (mk6 xs ys).cells).toArray) ∧ Below Z.heap.size Z w') := by
    unfold Hid; intro h Z hZ
    rw [hp] at h
    obtain ⟨k1, k2, _⟩ := (ptOk_iff _ _).1 h
    have e1 : n = 16 := by rw [← hx.2.1]; exact feOk_len k1
    have e2 : m = 16 := by rw [← hy.2.1]; exact feOk_len k2
    subst e1 e2
    exact spec6in a c xs b d ys Z (hx.below hZ) (hy.below hZ) k1 k2
  have HB : Hid (p = true → ∀ Z, Calls Tryd.prog 78 #[.agg (I64 (mk6 xs ys).cells).toArray] Z fun e w' => ∃ v, e = .returned v ∧ w'.ownsRow Z.heap.size 5 1 v T.length (U8 T) ∧ Below Z.heap.size Z w') := by
    unfold Hid; intro h Z
    have h' : ptOk xs ys = true := by rw [← hp]; exact h
    obtain ⟨k1, k2, _⟩ := (ptOk_iff _ _).1 h'
    have e : T = ptBt (flx (mk6 xs ys)) (fly (mk6 xs ys)) := by rw [hT]; unfold ptBF; rw [if_pos h']
    have el : T.length = 32 := by rw [e]; exact ptBt_len (fly_len _)
    rw [el, e]
    exact spec6bytes _ Z (mk6_ok k1 k2)
  rw [← hT]
  obtain ⟨P, hPe⟩ : ∃ P, P = mk6 xs ys := ⟨_, rfl⟩
  rw [← hPe] at HI HB
  obtain ⟨W, hW⟩ : ∃ W, W = w.alloc (.cells #[.slice a n c, .slice b m d] 27) := ⟨_, rfl⟩
  have fr : Below w.heap.size w W := by rw [hW]; exact (Below.refl _ _).alloc (Nat.le_refl _) _
  have pa : Arr W w.heap.size 27 [.slice a n c, .slice b m d] := by rw [hW]; exact Arr.new w [.slice a n c, .slice b m d] _
  clear hp hT hPe hx hy
  go_enter Tryd.func46, Tryd.ntmps46
  go_upto_region 1 with fail
  rw [← hW]
  clear hW
  go_wp2_with (refine wpList_load_row rfl 27 _ rfl w.heap.size rfl 27 ([Value.slice a n c, Value.slice b m d]).toArray (0, 0) _ pa Tryd.underlying27 rfl infoPt ?_)
  refine (HP.out _ fr).mono ?_
  rintro e w1 ⟨rfl, hb1⟩
  replace fr := fr.trans (hb1.mono fr.size)
  replace pa := pa.kept hb1
  clear hb1 HP
  cases p with
  | false =>
    have HE : Hid (T = []) := HT0.out rfl
    clear HT0 HI HB pa
    go_wp2
    go_ret
    exact ⟨_, rfl, HE.out ▸ World.ownsRow_nil _ _ _ _, fr⟩
  | true =>
    clear HT0
    go_wp2_with (refine wpList_load_row rfl 27 _ rfl w.heap.size rfl 27 ([Value.slice a n c, Value.slice b m d]).toArray (0, 0) _ pa Tryd.underlying27 rfl infoPt ?_)
    refine (HI.out (by simp) _ fr).mono ?_
    rintro e w2 ⟨rfl, hb2⟩
    replace fr := fr.trans (hb2.mono fr.size)
    clear hb2 HI pa
    go_wp2_with fail
    refine (HB.out (by simp) _).mono ?_
    rintro e w3 ⟨v, rfl, ho, hb3⟩
    have HOW : Hid _ := own_base ho fr.size
    have HF : Hid _ := fr.trans (hb3.mono fr.size)
    clear fr ho hb3 HB
    go_wp2
    go_ret
    exact ⟨_, rfl, HOW.out, HF.out⟩
end Go.Proofs.YtoblilngppjmhaaDoor

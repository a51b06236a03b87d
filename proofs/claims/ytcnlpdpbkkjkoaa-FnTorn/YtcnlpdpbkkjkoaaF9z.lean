/-
  What is proved here: what FlashNew answers, the specification's and the program's.
-/
import Derived.Test.YtcnlpdpbkkjkoaaF9u
namespace Go.Proofs.Ytcnlpdpbkkjkoaa
set_option maxRecDepth 100000
set_option maxHeartbeats 4000000
open Go.RowKit
set_option linter.unusedVariables false

theorem own_ty {w : World} {lo e n g : Nat} {v : Value} {l cs : List Value} {t : TypeId} (h : w.ownsRow lo e 1 v n l) (ha : Arr w g t cs) (hne : e ≠ t) : v.ownBlock ≠ some g := by
  intro hv
  rcases h.2 with ⟨hn, _⟩ | ⟨g', cap, cur, rfl, _, hgg, _⟩
  · rw [hn] at hv; cases hv
  · have : g' = g := Option.some.inj hv
    subst this
    unfold Arr at ha
    rw [hgg] at ha
    injection ha with ha
    injection ha with h1 h2
    exact hne h2
theorem own_two {w : World} {lo lo' e e' n n' : Nat} {v v' : Value} {l l' : List Value} (h : w.ownsRow lo e 1 v n l) (h' : w.ownsRow lo' e' 1 v' n' l') (hne : e ≠ e') : Apart v v' := by
  intro k h1 h2
  rcases h.2 with ⟨hn, _⟩ | ⟨g, cap, cur, rfl, _, hgg, _⟩
  · rw [hn] at h1; cases h1
  rcases h'.2 with ⟨hn, _⟩ | ⟨g', cap', cur', rfl, _, hgg', _⟩
  · rw [hn] at h2; cases h2
  have e1 : g = k := Option.some.inj h1
  have e2 : g' = k := Option.some.inj h2
  subst e1
  subst e2
  rw [hgg] at hgg'
  injection hgg' with h3
  injection h3 with h4 h5
  exact hne h5
/-- A row behind a point of memory. -/
def Rb (lo e n : Nat) (l : List Value) (_ _ : Nat) (w : World) (v : Value) : Prop := w.ownsRow lo e 1 v n l
theorem rb_keeps (d lo e n : Nat) (l : List Value) : Kd.keeps (kv d (Rb lo e n l)) := fun _ _ _ _ _ h _ b => own_below h b
def Rf9 (lo nB nW : Nat) (bs ws : List Int) (_ _ : Nat) (w : World) (v : Value) : Prop := ∃ a c a' c', v = flV a nB c a' nW c' ∧ OwnFl lo w a nB c a' nW c' bs ws
theorem rf9_keeps (d lo nB nW : Nat) (bs ws : List Int) : Kd.keeps (kv d (Rf9 lo nB nW bs ws)) := fun _ _ _ _ _ h _ b => by
  obtain ⟨a, c, a', c', e, o⟩ := h
  exact ⟨a, c, a', c', e, o.below b⟩
theorem run_make_bytes (w : World) (lo : Nat) (hlo : lo ≤ w.heap.size) (n : Nat) (hn : n ≤ 65536) (ev : Operand → Value) (o : Oper) (l c : Operand) (ho : o.op = .makeSlice 22 l c) (hl : ev l = .int .i64 (n : Int)) (hc : ev c = .int .i64 (n : Int)) :
    ∃ v w', (execOp ev o).run Try.prog w = .ok (.value v) w' ∧ w'.ownsRow lo 5 1 v n (U8 (List.replicate n 0)) ∧ Below w.heap.size w w' := by
  obtain ⟨i0, hi, hz0, hz1, hz2⟩ := info_parts Try.info5
  obtain ⟨w', hrun, r1, r2⟩ := run_make_full (P := Try.prog) w lo 22 5 i0 (.int .u8 0) 1 Try.underlying22 hi hz0 hz1 .i64 .i64 n (by rw [hz2]; omega) (by unfold maxLen; omega) hlo
  refine ⟨.slice (some ⟨w.heap.size, 0, none⟩) n n, w', ?_, ?_, (Below.refl _ _).grown r2 (Nat.le_refl _) (by intro k hk; cases hk)⟩
  · simp [execOp, ho, hl, hc, hrun, Result.andThen]
  · have e : (madeCells (Value.int IntKind.u8 0).cells (n * 1)).toList = U8 (List.replicate n 0) := by
      rw [Nat.mul_one]; simpa [U8, Value.cells] using toList_madeCells_one (.int .u8 0) n
    rw [← e]; exact r1
theorem run_make_ints (w : World) (lo : Nat) (hlo : lo ≤ w.heap.size) (n : Nat) (hn : n ≤ 65536) (ev : Operand → Value) (o : Oper) (l c : Operand) (ho : o.op = .makeSlice 23 l c) (hl : ev l = .int .i64 (n : Int)) (hc : ev c = .int .i64 (n : Int)) :
    ∃ v w', (execOp ev o).run Try.prog w = .ok (.value v) w' ∧ w'.ownsRow lo 3 1 v n (I64 (List.replicate n 0)) ∧ Below w.heap.size w w' := by
  obtain ⟨i0, hi, hz0, hz1, hz2⟩ := info_parts Try.info3
  obtain ⟨w', hrun, r1, r2⟩ := run_make_full (P := Try.prog) w lo 23 3 i0 (.int .i64 0) 1 Try.underlying23 hi hz0 hz1 .i64 .i64 n (by rw [hz2]; omega) (by unfold maxLen; omega) hlo
  refine ⟨.slice (some ⟨w.heap.size, 0, none⟩) n n, w', ?_, ?_, (Below.refl _ _).grown r2 (Nat.le_refl _) (by intro k hk; cases hk)⟩
  · simp [execOp, ho, hl, hc, hrun, Result.andThen]
  · have e : (madeCells (Value.int IntKind.i64 0).cells (n * 1)).toList = I64 (List.replicate n 0) := by
      rw [Nat.mul_one]; simpa [I64, Value.cells] using toList_madeCells_one (.int .i64 0) n
    rw [← e]; exact r1
theorem tmakeB {ev : Operand → Value} {o : Oper} {d : Nat} {w : World} {X : Prop} {lo n : Nat} {l c : Operand} (hlo : lo ≤ w.heap.size) (hn : n ≤ 65536) (ho : o.op = .makeSlice 22 l c) (hl : ev l = .int .i64 (n : Int)) (hc : ev c = .int .i64 (n : Int)) : Dty X (TOb Try.prog ev o (kv d (Rb lo 5 n (U8 (List.replicate n 0)))) w) := ⟨fun _ => ⟨by
  obtain ⟨v0, y0, r0, o0, b0⟩ := run_make_bytes w lo hlo n hn ev o l c ho hl hc
  unfold TObR
  rw [r0]
  exact ⟨_, rfl, b0, o0⟩⟩⟩
theorem tmakeI {ev : Operand → Value} {o : Oper} {d : Nat} {w : World} {X : Prop} {lo n : Nat} {l c : Operand} (hlo : lo ≤ w.heap.size) (hn : n ≤ 65536) (ho : o.op = .makeSlice 23 l c) (hl : ev l = .int .i64 (n : Int)) (hc : ev c = .int .i64 (n : Int)) : Dty X (TOb Try.prog ev o (kv d (Rb lo 3 n (I64 (List.replicate n 0)))) w) := ⟨fun _ => ⟨by
  obtain ⟨v0, y0, r0, o0, b0⟩ := run_make_ints w lo hlo n hn ev o l c ho hl hc
  unfold TObR
  rw [r0]
  exact ⟨_, rfl, b0, o0⟩⟩⟩
theorem flashNew_s (w : World) :
    Calls Try.prog 35 #[] w fun e w' => ∃ v, e = .returned v ∧ IsFl w w' v (List.replicate 3072 255) (List.replicate 48 0) ∧ Below w.heap.size w w' := by
  obtain ⟨W, hW⟩ : ∃ W, W = w.alloc (.cells #[.slice none 0 0, .slice none 0 0] 25) := ⟨_, rfl⟩
  have B : Below w.heap.size w W := by rw [hW]; exact (Below.refl _ _).alloc (Nat.le_refl _) _
  have A0 : Arr W w.heap.size 25 [.slice none 0 0, .slice none 0 0] := by rw [hW]; exact Arr.new w _ _
  have z : w.heap.size + 1 ≤ W.heap.size := by rw [hW]; simp
  obtain ⟨xs, hxs⟩ : ∃ xs : List Int, xs = List.replicate 3072 255 := ⟨_, rfl⟩
  have hxl : xs.length = 3072 := by rw [hxs]; simp
  have hxg : ∀ k, k < 3072 → xs.getD k 0 = 255 := by intro k hk; rw [hxs, List.getD_eq_getElem?_getD, List.getElem?_replicate_of_lt hk]; rfl
  rw [← hxs]
  clear hxs
  go_enter Try.func35, Try.ntmps35
  go_wp2
  rw [← hW]
  clear hW
  try simp only [Act.put]
  refine tame [kv 3 (Rb W.heap.size 5 3072 (U8 (List.replicate 3072 0))), kv 4 (Rb W.heap.size 3 48 (I64 (List.replicate 48 0))), kv 5 (Rf9 W.heap.size 3072 48 (List.replicate 3072 0) (List.replicate 48 0)), ka 1 25 [.slice none 0 0, .slice none 0 0]] 4 (by kernel_rfl) (by kernel_rfl) (by kernel_rfl) (by repeat' first | exact trivial | apply ka_keeps | apply rb_keeps | apply rf9_keeps | constructor) 1 (by kernel_rfl) (fun vv ll hh yW bW => ?_) (fun vv ll hh yW bW F ivh aph => ?_)
  · refine ⟨tmakeB bW.size (by omega) rfl rfl rfl, tmakeI bW.size (by omega) rfl rfl rfl, ⟨fun X => ⟨?_⟩⟩, ta (by kernel_rfl), trivial⟩
    have f0 : Rb W.heap.size 5 3072 (U8 (List.replicate 3072 0)) (ll 0) (hh 0) yW (vv 0) := X ⟨0, .data⟩ (by simp) rfl _ rfl
    have f1 : Rb W.heap.size 3 48 (I64 (List.replicate 48 0)) (ll 1) (hh 1) yW (vv 1) := X ⟨1, .data⟩ (by simp) rfl _ rfl
    obtain ⟨g, c, e0⟩ := row_shape f0 (by omega)
    obtain ⟨g', c', e1⟩ := row_shape f1 (by omega)
    unfold Rb at f0 f1
    rw [e0] at f0
    rw [e1] at f1
    have R : Res (kv 5 (Rf9 W.heap.size 3072 48 (List.replicate 3072 0) (List.replicate 48 0))) yW (flV (some ⟨g, 0, none⟩) 3072 c (some ⟨g', 0, none⟩) 48 c') yW := ⟨_, rfl, Below.refl _ _, _, _, _, _, rfl, f0, f1, own_two f0 f1 (by decide)⟩
    unfold TObR
    simp only [fillK, putT, List.setIfInBounds_toArray, List.set_cons_zero, List.set_cons_succ]
    simp only [e0, e1]
    unfold execOp
    go_simp
    exact R
  obtain ⟨g, c, g', c', e2, O⟩ : Rf9 W.heap.size 3072 48 (List.replicate 3072 0) (List.replicate 48 0) (ll 2) (hh 2) yW (vv 2) := F.2.2.1
  obtain ⟨X0, _⟩ : Arr yW (ll 3) 25 [.slice none 0 0, .slice none 0 0] ∧ ll 3 < hh 3 := F.2.2.2.1
  have s3 := ivh 3 (by omega)
  clear F ivh aph
  obtain ⟨y, hy⟩ : ∃ z, z = yW := ⟨_, rfl⟩
  rw [← hy] at bW O X0 s3 ⊢
  clear hy
  obtain ⟨ga, ca, eg⟩ := row_shape O.ob (by omega)
  injection eg with eg eg3 eg2
  subst eg
  subst eg2
  obtain ⟨gb, cb, eh⟩ := row_shape O.ow (by omega)
  injection eh with eh eh3 eh2
  subst eh
  subst eh2
  obtain ⟨X, hX⟩ : ∃ X, X = ll 3 := ⟨_, rfl⟩
  rw [← hX] at X0 s3
  have nX1 := own_ty O.ob X0 (by decide)
  have nX2 := own_ty O.ow X0 (by decide)
  have By := B.trans (bW.mono B.size)
  have K0 := A0.kept bW
  refine st_row (i := 4) (by kernel_rfl) rfl rfl rfl rfl (cells := [.slice (some ⟨ga, 0, none⟩) 3072 c, .slice (some ⟨gb, 0, none⟩) 48 c']) X0 (by rw [hX]; kernel_rfl) ?_ rfl (by kernel_rfl) (by intro v hv; simp at hv; rcases hv with rfl | rfl <;> rfl) ?_
  · show vv 2 = _
    exact e2
  refine wpAny_done (by kernel_rfl) ?_ _
  have XS : Arr (y.setCells X 0 [.slice (some ⟨ga, 0, none⟩) 3072 c, .slice (some ⟨gb, 0, none⟩) 48 c']) X 25 [.slice (some ⟨ga, 0, none⟩) 3072 c, .slice (some ⟨gb, 0, none⟩) 48 c'] := (X0.set 0 _).set 1 _
  have BS : Below w.heap.size w (y.setCells X 0 [.slice (some ⟨ga, 0, none⟩) 3072 c, .slice (some ⟨gb, 0, none⟩) 48 c']) := (By.setCell (by simp only; omega) _).setCell (by simp only; omega) _
  have KS : Arr (y.setCells X 0 [.slice (some ⟨ga, 0, none⟩) 3072 c, .slice (some ⟨gb, 0, none⟩) 48 c']) w.heap.size 25 [.slice none 0 0, .slice none 0 0] := (K0.other _ _ (by simp only; omega)).other _ _ (by simp only; omega)
  have OS : OwnFl W.heap.size (y.setCells X 0 [.slice (some ⟨ga, 0, none⟩) 3072 c, .slice (some ⟨gb, 0, none⟩) 48 c']) (some ⟨ga, 0, none⟩) 3072 c (some ⟨gb, 0, none⟩) 48 c' (List.replicate 3072 0) (List.replicate 48 0) :=
    ⟨own_otherS (own_otherS O.ob _ _ nX1) _ _ nX1, own_otherS (own_otherS O.ow _ _ nX2) _ _ nX2, O.ap⟩
  generalize y.setCells X 0 [.slice (some ⟨ga, 0, none⟩) 3072 c, .slice (some ⟨gb, 0, none⟩) 48 c'] = Y at XS BS KS OS ⊢
  have nga : ga ≠ X := fun e => nX1 (by rw [e]; rfl)
  have ng0 := (OS.ob.lt ga rfl).1
  have ng1 := (OS.ow.lt gb rfl).1
  clear O X0 K0 By bW nX1 nX2
  simp only [fillK, putT, List.setIfInBounds_toArray, List.set_cons_zero, List.set_cons_succ]
  rw [← hX]
  clear hX e2
  have ho0 : Y.ownsRow W.heap.size 5 1 (.slice (some ⟨ga, 0, none⟩) 3072 c) 3072 (U8 (xs.take 0 ++ List.replicate (3072 - 0) 0)) := by simpa using OS.ob
  go_wp2
  go_loopw [2] (fun i wr => ∃ k : Nat, k ≤ 3072 ∧ i = .int .i64 k ∧ wr.ownsRow W.heap.size 5 1 (.slice (some ⟨ga, 0, none⟩) 3072 c) 3072 (U8 (xs.take k ++ List.replicate (3072 - k) 0)) ∧ Y.grownBy wr (some ga)) (fun i _ => 3072 - (intOf i).toNat)
  case atStart => exact ⟨0, Nat.zero_le _, rfl, ho0, World.grownBy.refl _ _⟩
  case round =>
    obtain ⟨k, hk, rfl, hown, hg⟩ := hrel
    clear ho0
    have XK := XS.grown hg (Ne.symm nga)
    have cX := arr2 XK
    by_cases hlt : k < 3072
    · have hltI : (k : Int) < 3072 := by omega
      have hfz := hown.frozenAt k
      obtain ⟨u, hu⟩ : ∃ u, wr.cell? ⟨ga, k, none⟩ = some u := by
        rw [hown.cellAt k (by omega)]
        have : k < (U8 (xs.take k ++ List.replicate (3072 - k) 0)).length := by simp [hxl]; omega
        exact ⟨_, List.getElem?_eq_getElem this⟩
      have hst := hown.stored k (.int .u8 (xs.getD k 0))
      rw [set_take xs 3072 k (by omega) hxl, hxg k hlt] at hst
      have hg2 := grown_trans hg hst.2
      have HS : Hid _ := hst.1
      have HG : Hid _ := hg2
      clear hst hg2 hown
      go_wp2
      go_roundw
      case rel => exact ⟨k + 1, by omega, by go_num, HS.out, HG.out⟩
      case measure => simp [intOf]; omega
    · have hkn : k = 3072 := by omega
      subst hkn
      rw [List.take_of_length_le (by omega)] at hown
      have OF : OwnFl w.heap.size wr (some ⟨ga, 0, none⟩) 3072 c (some ⟨gb, 0, none⟩) 48 c' xs (List.replicate 48 0) := ⟨own_base (by simpa using hown) (by omega), own_base (own_kept (u := .slice (some ⟨ga, 0, none⟩) 3072 c) OS.ow hg OS.ap) (by omega), OS.ap⟩
      have BF : Below w.heap.size w wr := BS.grown hg BS.size (fun k hk => by cases hk; omega)
      have KF := KS.grown hg (by omega)
      have dR := arr2 KF
      have fR := KF.frozen
      have lR := KF.lt
      have K : Arr ((wr.setCell ⟨w.heap.size, 0, none⟩ (.slice (some ⟨ga, 0, none⟩) 3072 c)).setCell ⟨w.heap.size, 1, none⟩ (.slice (some ⟨gb, 0, none⟩) 48 c')) w.heap.size 25 [.slice (some ⟨ga, 0, none⟩) 3072 c, .slice (some ⟨gb, 0, none⟩) 48 c'] := (KF.set 0 _).set 1 _
      have BB : Below w.heap.size w ((wr.setCell ⟨w.heap.size, 0, none⟩ (.slice (some ⟨ga, 0, none⟩) 3072 c)).setCell ⟨w.heap.size, 1, none⟩ (.slice (some ⟨gb, 0, none⟩) 48 c')) := (BF.setCell (by simp) _).setCell (by simp) _
      have OO : OwnFl w.heap.size ((wr.setCell ⟨w.heap.size, 0, none⟩ (.slice (some ⟨ga, 0, none⟩) 3072 c)).setCell ⟨w.heap.size, 1, none⟩ (.slice (some ⟨gb, 0, none⟩) 48 c')) (some ⟨ga, 0, none⟩) 3072 c (some ⟨gb, 0, none⟩) 48 c' xs (List.replicate 48 0) :=
        ⟨own_otherS (own_otherS OF.ob _ _ (by simp [Value.ownBlock]; omega)) _ _ (by simp [Value.ownBlock]; omega), own_otherS (own_otherS OF.ow _ _ (by simp [Value.ownBlock]; omega)) _ _ (by simp [Value.ownBlock]; omega), OF.ap⟩
      have HK : Hid _ := K
      have HBB : Hid _ := BB
      have HOO : Hid _ := OO
      clear K BB OO OF BF hown hg
      go_wp2
      exact bodyPost_ret (results_cell_row rfl _ _ w.heap.size 25 _ (0, 0) _ rfl HK.out Try.underlying25 rfl (by kernel_rfl)) rfl ⟨_, rfl, IsFl.of HOO.out, HBB.out⟩

def Pw (lo : Nat) (_ _ : Nat) (w : World) (v : Value) : Prop := ∃ g, v = .slice (some ⟨g, 0, none⟩) 3072 3072 ∧ OwnP w lo g 3072 (List.replicate 3072 255)
theorem pw_keeps (d lo : Nat) : Kd.keeps (kv d (Pw lo)) := fun _ _ _ _ _ h _ b => by
  obtain ⟨g, e, o⟩ := h
  exact ⟨g, e, o.below b⟩
abbrev ks1 (d : Nat) (x : Int) : Kd := (some d, (fun l _ => .slice (some ⟨l, 0, none⟩) 1 1), fun l h w _ => Arr w l 5 [.int .u8 x] ∧ l < h)
theorem ks1_keeps (d : Nat) (x : Int) : Kd.keeps (ks1 d x) := fun _ _ _ _ _ h _ b => ⟨h.1.kept b, h.2⟩
theorem t1 {P : Program} {ev : Operand → Value} {o : Oper} {d : Nat} {w : World} {X : Prop} {x : Int} (h : (execOp ev o).run P w = .ok (.value (.slice (some ⟨w.heap.size, 0, none⟩) 1 1)) (w.alloc (.cells #[.int .u8 x] 5))) : Dty X (TOb P ev o (ks1 d x) w) := ⟨fun _ => by
  refine ⟨?_⟩
  unfold TObR
  rw [h]
  exact ⟨undef, rfl, (Below.refl _ _).alloc (Nat.le_refl _) _, Arr.new w [.int .u8 x] 5, by simp⟩⟩
theorem OwnP.setO {w : World} {lo g n : Nat} {xs : List Int} (h : OwnP w lo g n xs) (p : Addr) (v : Value) (hp : g ≠ p.block) : OwnP (w.setCell p v) lo g n xs := by
  obtain ⟨cur, hg, h1, h2⟩ := h.blk
  exact ⟨h.lo, h.len, cur, by rw [heap_setCell_other w p g v hp]; exact hg, h1, h2⟩
theorem OwnP.base {w : World} {lo g n : Nat} {xs : List Int} (h : OwnP w lo g n xs) {b : Nat} (hb : b ≤ lo) : OwnP w b g n xs := ⟨Nat.le_trans hb h.lo, h.len, h.blk⟩
theorem flashNew_i (w : World) :
    Calls Try.prog 36 #[] w fun e w' => ∃ g g' c', e = .returned (flV (some ⟨g, 0, none⟩) 3072 3072 (some ⟨g', 0, none⟩) 48 c') ∧ OwnP w' w.heap.size g 3072 (List.replicate 3072 255) ∧ w'.ownsRow w.heap.size 3 1 (.slice (some ⟨g', 0, none⟩) 48 c') 48 (I64 (List.replicate 48 0)) ∧ g ≠ g' ∧ Below w.heap.size w w' := by
  obtain ⟨W, hW⟩ : ∃ W, W = w.alloc (.cells #[.slice none 0 0, .slice none 0 0] 25) := ⟨_, rfl⟩
  have B : Below w.heap.size w W := by rw [hW]; exact (Below.refl _ _).alloc (Nat.le_refl _) _
  have A0 : Arr W w.heap.size 25 [.slice none 0 0, .slice none 0 0] := by rw [hW]; exact Arr.new w _ _
  have z : w.heap.size + 1 ≤ W.heap.size := by rw [hW]; simp
  go_enter Try.func36, Try.ntmps36
  go_wp2
  rw [← hW]
  clear hW
  try simp only [Act.put]
  refine tame [ks1 1 255, kv 2 (Pw W.heap.size), kv 3 (Rb W.heap.size 3 48 (I64 (List.replicate 48 0)))] 3 (by kernel_rfl) (by kernel_rfl) (by kernel_rfl) (by repeat' first | exact trivial | apply ks1_keeps | apply rb_keeps | apply pw_keeps | constructor) 2 (by kernel_rfl) (fun vv ll hh yW bW => ?_) (fun vv ll hh yW bW F ivh aph => ?_)
  · refine ⟨t1 ?_, tr (f := 72) (args := #[.slice (some ⟨ll 0, 0, none⟩) 1 1, .int .i64 3072]) (fun X => ?_) (by kernel_rfl), tmakeI bW.size (by omega) rfl rfl rfl, trivial⟩
    · simp only [fillK, putT, List.setIfInBounds_toArray, List.set_cons_zero, List.set_cons_succ]
      unfold execOp
      go_simp
    · have f0 : Arr yW (ll 0) 5 [.int .u8 255] ∧ ll 0 < hh 0 := X ⟨0, .data⟩ (by simp) rfl _ rfl
      have hb : Bs yW (some ⟨ll 0, 0, none⟩) 1 1 [255] := ⟨(fun h => by cases h), rfl, Nat.le_refl _, by intro x hx; simp at hx; omega, .inr ⟨ll 0, 0, rfl, f0.1.lt, fun j hj => by
        have : j = 0 := by omega
        subst this
        exact f0.1.cell 0⟩⟩
      refine (repeat255 (ll 0) 0 1 3072 yW hb (by omega) (by omega)).mono ?_
      rintro e w' ⟨g, rfl, o, b⟩
      exact ⟨_, rfl, _, rfl, b, g, rfl, o.base bW.size⟩
  obtain ⟨g, e1, O1⟩ : Pw W.heap.size (ll 1) (hh 1) yW (vv 1) := F.2.1
  have O2 : Rb W.heap.size 3 48 (I64 (List.replicate 48 0)) (ll 2) (hh 2) yW (vv 2) := F.2.2.1
  clear F ivh aph
  obtain ⟨y, hy⟩ : ∃ z, z = yW := ⟨_, rfl⟩
  rw [← hy] at bW O1 O2 ⊢
  clear hy
  obtain ⟨g', c', e2⟩ := row_shape O2 (by omega)
  unfold Rb at O2
  rw [e2] at O2
  have ngg : g ≠ g' := by
    intro e
    subst e
    obtain ⟨cur, hc, _⟩ := O1.blk
    exact own_ty (t := 5) (cs := cur.toList) O2 (by unfold Arr; simpa using hc) (by decide) rfl
  have ng := O1.lo
  have ng' := (O2.lt g' rfl).1
  have K0 := A0.kept bW
  have By := B.trans (bW.mono B.size)
  refine st_set (i := 3) (by kernel_rfl) rfl rfl (v := .agg #[.slice (some ⟨g, 0, none⟩) 3072 3072, .slice (some ⟨g', 0, none⟩) 48 c']) ?_ ?_
  · simp only [fillK, putT, List.setIfInBounds_toArray, List.set_cons_zero, List.set_cons_succ]
    simp only [e1, e2]
    unfold execOp
    go_simp
    try rfl
  refine st_row (i := 4) (by kernel_rfl) rfl rfl rfl rfl (cells := [.slice (some ⟨g, 0, none⟩) 3072 3072, .slice (some ⟨g', 0, none⟩) 48 c']) K0 (by kernel_rfl) (by kernel_rfl) rfl (by kernel_rfl) (by intro v hv; simp at hv; rcases hv with rfl | rfl <;> rfl) ?_
  refine wpAny_done (by kernel_rfl) ?_ _
  have KS : Arr (y.setCells w.heap.size 0 [.slice (some ⟨g, 0, none⟩) 3072 3072, .slice (some ⟨g', 0, none⟩) 48 c']) w.heap.size 25 [.slice (some ⟨g, 0, none⟩) 3072 3072, .slice (some ⟨g', 0, none⟩) 48 c'] := (K0.set 0 _).set 1 _
  have BS : Below w.heap.size w (y.setCells w.heap.size 0 [.slice (some ⟨g, 0, none⟩) 3072 3072, .slice (some ⟨g', 0, none⟩) 48 c']) := (By.setCell (by simp) _).setCell (by simp) _
  have P1 : OwnP (y.setCells w.heap.size 0 [.slice (some ⟨g, 0, none⟩) 3072 3072, .slice (some ⟨g', 0, none⟩) 48 c']) W.heap.size g 3072 (List.replicate 3072 255) := (O1.setO _ _ (by simp only; omega)).setO _ _ (by simp only; omega)
  have P2 : (y.setCells w.heap.size 0 [.slice (some ⟨g, 0, none⟩) 3072 3072, .slice (some ⟨g', 0, none⟩) 48 c']).ownsRow W.heap.size 3 1 (.slice (some ⟨g', 0, none⟩) 48 c') 48 (I64 (List.replicate 48 0)) := own_otherS (own_otherS O2 _ _ (by simp [Value.ownBlock]; omega)) _ _ (by simp [Value.ownBlock]; omega)
  generalize y.setCells w.heap.size 0 [.slice (some ⟨g, 0, none⟩) 3072 3072, .slice (some ⟨g', 0, none⟩) 48 c'] = Y at KS BS P1 P2 ⊢
  clear O1 O2 K0 By bW
  simp only [fillK, putT, List.setIfInBounds_toArray, List.set_cons_zero, List.set_cons_succ]
  go_wp2
  exact bodyPost_ret (results_cell_row rfl _ _ w.heap.size 25 _ (0, 0) _ rfl KS Try.underlying25 rfl (by kernel_rfl)) rfl ⟨g, g', c', rfl, P1.base (by omega), own_base P2 (by omega), ngg, BS⟩
end Go.Proofs.Ytcnlpdpbkkjkoaa

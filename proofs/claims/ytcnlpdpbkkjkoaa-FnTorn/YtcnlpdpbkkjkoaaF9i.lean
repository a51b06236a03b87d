/-
  What is proved here: what the program's opposites, turnings and turnBits do.
-/
import Derived.Test.YtcnlpdpbkkjkoaaF9s
import Derived.Laws.EntriesVeiled
namespace Go.Proofs.Ytcnlpdpbkkjkoaa
set_option maxRecDepth 100000
set_option maxHeartbeats 4000000
open Go.RowKit

def opp (xs : List Int) : List Int := xs.map fun x => bits .xor .u8 255 x
theorem opp_len (xs : List Int) : (opp xs).length = xs.length := by simp [opp]
theorem opp_get (xs : List Int) (k : Nat) (h : k < xs.length) : (opp xs).getD k 0 = bits .xor .u8 255 (xs.getD k 0) := by simp [opp, h]
theorem opp_byte (xs : List Int) : ∀ x ∈ opp xs, 0 ≤ x ∧ x < 256 := by
  intro x hx
  simp only [opp, List.mem_map] at hx
  obtain ⟨y, _, rfl⟩ := hx
  exact bits_byte _ _ _

theorem implOpposites (a : Option Addr) (n cap : Nat) (xs : List Int) (w : World) (h : Bs w a n cap xs) (hn : n ≤ 2097152) :
    Calls Try.prog 70 #[.slice a n cap] w fun e w' => ∃ v, e = .returned v ∧ w'.ownsRow w.heap.size 5 1 v n (U8 (opp xs)) ∧ Below w.heap.size w w' := by
  obtain ⟨i0, hi, hz0, hz1, hz2⟩ := info_parts Try.info5
  obtain ⟨_, hl, hc, _, h⟩ := h
  go_enter Try.func70, Try.ntmps70
  go_wp2_with (at_make; refine wpList_make_full _ rfl _ _ 22 rfl w.heap.size 5 i0 (.int .u8 0) 1 Try.underlying22 hi hz0 hz1 .i64 .i64 n n n rfl rfl rfl rfl (by rw [hz2]; omega) (by unfold maxLen; omega) (Nat.le_refl _) ?_; intro w1 hown hgrow)
  have hbel : Below w.heap.size w w1 := (Below.refl _ _).grown hgrow (Nat.le_refl _) (by intro k hk; cases hk)
  have hown0 : w1.ownsRow w.heap.size 5 1 (.slice (some ⟨w.heap.size, 0, none⟩) n n) n (U8 ((opp xs).take 0 ++ List.replicate (n - 0) 0)) := by
    have e : (madeCells (Value.int IntKind.u8 0).cells (n * 1)).toList = U8 ((opp xs).take 0 ++ List.replicate (n - 0) 0) := by
      rw [Nat.mul_one]; simpa [U8, Value.cells] using toList_madeCells_one (.int .u8 0) n
    rw [← e]; exact hown
  clear hown hgrow
  go_loopw [11] (fun i wr => ∃ k : Nat, k ≤ n ∧ i = .int .i64 k ∧ wr.ownsRow w.heap.size 5 1 (.slice (some ⟨w.heap.size, 0, none⟩) n n) n (U8 ((opp xs).take k ++ List.replicate (n - k) 0)) ∧ Below w.heap.size w wr) (fun i _ => n - (intOf i).toNat)
  case atStart => exact ⟨0, Nat.zero_le _, rfl, hown0, hbel⟩
  case round =>
    obtain ⟨k, hk, rfl, hown, hb⟩ := hrel
    clear hown0 hbel
    by_cases hlt : k < n
    · rcases h with h | ⟨b, o, rfl, hbs, hcell⟩
      · omega
      · obtain ⟨x, hx⟩ : ∃ x, x = xs.getD k 0 := ⟨_, rfl⟩
        have hck : wr.cell? ⟨b, o + k, none⟩ = some (.int .u8 x) := by rw [hx]; exact (hb.cell (p := ⟨b, o + k, none⟩) hbs).trans (hcell k hlt)
        have hfz := hown.frozenAt k
        obtain ⟨u, hu⟩ : ∃ u, wr.cell? ⟨w.heap.size, k, none⟩ = some u := by
          rw [hown.cellAt k (by omega)]
          have : k < (U8 ((opp xs).take k ++ List.replicate (n - k) 0)).length := by simp [opp_len]; omega
          exact ⟨_, List.getElem?_eq_getElem this⟩
        obtain ⟨y, hy⟩ : ∃ y, y = bits .xor .u8 255 x := ⟨_, rfl⟩
        have hst := hown.stored k (.int .u8 y)
        rw [show y = (opp xs).getD k 0 by rw [opp_get xs k (by omega), hy, hx], set_take (opp xs) n k (by rw [opp_len]; omega) (by rw [opp_len]; exact hl)] at hst
        have hb2 := hb.setCell (p := ⟨w.heap.size, k, none⟩) (Nat.le_refl _) (.int .u8 y)
        rw [show (opp xs).getD k 0 = bits .xor .u8 255 x by rw [opp_get xs k (by omega), hx]] at hst
        rw [hy] at hb2
        have HS : Hid _ := hst
        have HB : Hid _ := hb2
        clear hst hb2 hown hcell hx hy
        go_wp2
        go_roundw
        case rel => exact ⟨k + 1, by omega, by go_num, HS.out.1, HB.out⟩
        case measure => simp [intOf]; omega
    · have hkn : k = n := by omega
      subst hkn
      go_wp2
      go_ret
      refine ⟨_, rfl, ?_, hb⟩
      simpa [List.take_of_length_le (show (opp xs).length ≤ k by rw [opp_len]; omega)] using hown

theorem implClear (a b : Int) (w : World) : Calls Try.prog 97 #[.int .u8 a, .int .u8 b] w fun e w' => e = .returned (.int .u8 (bits .andNot .u8 a b)) ∧ w' = w := by
  go_enter Try.func97, Try.ntmps97
  go_wp2
  go_ret
  exact ⟨rfl, rfl⟩
theorem implSet (a b : Int) (w : World) : Calls Try.prog 98 #[.int .u8 a, .int .u8 b] w fun e w' => e = .returned (.int .u8 (bits .or .u8 a b)) ∧ w' = w := by
  go_enter Try.func98, Try.ntmps98
  go_wp2
  go_ret
  exact ⟨rfl, rfl⟩
theorem implTurnings (w : World) : Calls Try.prog 91 #[] w fun e w' => e = .returned (.agg #[.func (.func 97) #[] #[], .func (.func 98) #[] #[]]) ∧ Below w.heap.size w w' := by
  go_enter Try.func91, Try.ntmps91
  have K : Arr (w.alloc (.cells #[.func (.func 97) #[] #[], .func (.func 98) #[] #[]] 90)) w.heap.size 90 [.func (.func 97) #[] #[], .func (.func 98) #[] #[]] := Arr.new _ _ _
  have bF : Below w.heap.size w (w.alloc (.cells #[.func (.func 97) #[] #[], .func (.func 98) #[] #[]] 90)) := (Below.refl _ _).alloc (Nat.le_refl _) _
  go_wp2
  exact bodyPost_ret (results_cell_row rfl _ _ w.heap.size 90 _ (0, 0) _ rfl K Try.underlying90 rfl (by kernel_rfl)) rfl ⟨rfl, bF⟩


theorem turnClear (lo g nB cB : Nat) (bs : List Int) (I : Nat) (pl : Option Addr) (np cp : Nat) (az : Option Addr) (nz cz : Nat) (zs : List Int) (am : Option Addr) (nm cm : Nat) (ms : List Int) (w : World)
    (ho : w.ownsRow lo 5 1 (.slice (some ⟨g, 0, none⟩) nB cB) nB (U8 bs)) (hpl : nz = 0 ∨ pl = some ⟨g, I, none⟩ ∧ nz ≤ np) (hz : Bs w az nz cz zs) (hm : Bs w am nm cm ms)
    (fz : OffB az nz g) (fm : OffB am nm g) (hI : I + nz ≤ nB) (hn : nB ≤ 2097152) (hmn : nm ≤ 2097152) :
    Calls Try.prog 69 #[.slice pl np cp, .int .i64 0, .slice az nz cz, .slice am nm cm] w fun e w' => (∃ v, e = .returned v) ∧ w'.ownsRow lo 5 1 (.slice (some ⟨g, 0, none⟩) nB cB) nB (U8 (tn (fun i b => bits .andNot .u8 b (bits .and .u8 (zs.getD i 0) (mk ms i))) bs I nz)) ∧ w.grownBy w' (some g) := by
  have hbl : bs.length = nB := (own_shape ho).1
  obtain ⟨f, hf⟩ : ∃ f : Nat → Int → Int, f = fun i b => bits .andNot .u8 b (bits .and .u8 (zs.getD i 0) (mk ms i)) := ⟨_, rfl⟩
  rw [← hf]
  have HFF : Hid _ := hf
  clear hf
  have hgs0 := (ho.lt g rfl).2
  go_enter Try.func69, Try.ntmps69
  go_wp2_with fail
  refine (implTurnings _).mono ?_
  rintro e w1 ⟨rfl, b1⟩
  obtain ⟨W, hW⟩ : ∃ W, W = w1.alloc (.cells #[.func (.func 97) #[] #[]] 89) := ⟨_, rfl⟩
  have hix : ∀ U : World, (Instr.index 90 (.agg #[.func (.func 97) #[] #[], .func (.func 98) #[] #[]]) (.int .i64 0)).run Try.prog U = .ok (.agg #[.func (.func 97) #[] #[]]) U := fun U => by kernel_rfl
  have AT : Arr W w1.heap.size 89 [.func (.func 97) #[] #[]] := by rw [hW]; exact Arr.new w1 _ _
  have bW : Below w.heap.size w W := by rw [hW]; exact b1.alloc b1.size _
  have ne1 : w1.heap.size ≠ g := by have := b1.size; omega
  have g0 : w.grownBy W (some g) := grown_of_below bW
  have ho0 : W.ownsRow lo 5 1 (.slice (some ⟨g, 0, none⟩) nB cB) nB (U8 (tn f bs I 0)) := by rw [tn_zero]; exact own_below ho bW
  have hz1 := hz.below bW
  have hm1 := hm.below bW
  clear b1 bW hz hm ho
  go_wp2
  rw [← hW]
  clear hW hix
  go_loopw [16] (fun i wr => ∃ k : Nat, k ≤ nz ∧ i = .int .i64 k ∧ wr.ownsRow lo 5 1 (.slice (some ⟨g, 0, none⟩) nB cB) nB (U8 (tn f bs I k)) ∧ W.grownBy wr (some g)) (fun i _ => nz - (intOf i).toNat)
  case atStart => exact ⟨0, Nat.zero_le _, rfl, ho0, World.grownBy.refl _ _⟩
  case round =>
    obtain ⟨k, hk, rfl, hown, hg⟩ := hrel
    clear ho0
    by_cases hlt : k < nz
    · have hltI : (k : Int) < (nz : Int) := by omega
      obtain ⟨rfl, hnp⟩ : pl = some ⟨g, I, none⟩ ∧ nz ≤ np := by
        rcases hpl with h | h
        · omega
        · exact h
      have hkp : (k : Int) < (np : Int) := by omega
      have A : Arr wr w1.heap.size 89 [.func (.func 97) #[] #[]] := AT.grown hg ne1
      have X := hz1.grownO hg fz
      have M := hm1.grownO hg fm
      obtain ⟨_, hzl, _, _, hX⟩ := X
      rcases hX with hX | ⟨bx, ox, rfl, hbx, hcx⟩
      · omega
      obtain ⟨x, ex⟩ : ∃ x, x = zs.getD k 0 := ⟨_, rfl⟩
      have c2 : wr.cell? ⟨bx, ox + k, none⟩ = some (.int .u8 x) := by rw [ex]; exact hcx k hlt
      obtain ⟨m, em⟩ : ∃ m, m = mk ms k := ⟨_, rfl⟩
      have HM := fun y (b : Below wr.heap.size wr y) => implMaskAt am nm cm ms k y (M.below b) (by omega) (by omega)
      rw [← em] at HM
      obtain ⟨y0, ey⟩ : ∃ y, y = bs.getD (I + k) 0 := ⟨_, rfl⟩
      have c1 : wr.cell? ⟨g, I + k, none⟩ = some (.int .u8 y0) := by
        rw [hown.cellAt (I + k) (by omega)]
        have e1 := tn_get f bs I k (I + k) (by omega)
        rw [if_neg (by omega), ← ey] at e1
        have h2 : I + k < (tn f bs I k).length := by rw [tn_len]; omega
        simp only [List.getD_eq_getElem?_getD, List.getElem?_eq_getElem h2, Option.getD_some] at e1
        simp [h2, e1]
      have hgs : g < wr.heap.size := (hown.lt g rfl).2
      have c0 := A.cell 0
      simp at c0
      obtain ⟨V, eV⟩ : ∃ V, V = bits .andNot .u8 y0 (bits .and .u8 x m) := ⟨_, rfl⟩
      have HT := fun y => implClear y0 (bits .and .u8 x m) y
      rw [← eV] at HT
      have HS : Hid (∀ U : World, U.ownsRow lo 5 1 (.slice (some ⟨g, 0, none⟩) nB cB) nB (U8 (tn f bs I k)) → (U.setCell ⟨g, I + k, none⟩ (.int .u8 V)).ownsRow lo 5 1 (.slice (some ⟨g, 0, none⟩) nB cB) nB (U8 (tn f bs I (k + 1))) ∧ U.grownBy (U.setCell ⟨g, I + k, none⟩ (.int .u8 V)) (some g)) := by
        intro U hU
        have := hU.stored (I + k) (.int .u8 V)
        rw [tn_set f bs I k (by omega) V (by rw [eV, HFF.out]; simp only; rw [← ex, ← em, ← ey])] at this
        exact this
      clear ex em ey hcx M eV
      go_wp2
      try simp only [Act.put]
      refine tameG [kc 21 (.slice (some ⟨g, I, none⟩) np cp), kc 22 (.int .i64 (k : Int)), kc 23 (.pointer (some ⟨w1.heap.size, 0, none⟩)), kc 24 (.func (.func 97) #[] #[]), kc 25 (.slice (some ⟨g, I, none⟩) np cp), kc 26 (.int .i64 (k : Int)), kc 27 (.pointer (some ⟨g, I + k, none⟩)), kc 28 (.int .u8 (y0)), kc 29 (.int .u8 (x)), kc 30 (.slice am nm cm), kc 31 (.int .i64 (k : Int)), kc 32 (.int .u8 (m)), kc 33 (.int .u8 (bits .and .u8 x m)), kc 34 (.int .u8 (V)), kc 35 (.pointer (some ⟨g, I + k, none⟩))] 15 (by kernel_rfl) (by kernel_rfl) (by kernel_rfl) (by repeat' first | exact trivial | apply kc_keeps | constructor) 1 (by kernel_rfl) (fun vv ll hh yW bW => ?_) (fun vv ll hh yW bW F ivh aph => ?_)
      · have x0 := (bW.cell (p := ⟨w1.heap.size, 0, none⟩) A.lt).trans c0
        have x1 := (bW.cell (p := ⟨g, _, none⟩) hgs).trans c1
        refine ⟨og (tp (by kernel_rfl)) (by kernel_rfl), og (tp (by kernel_rfl)) (by kernel_rfl), og (tp (by kernel_rfl)) (by kernel_rfl), og (tp ?_) (by kernel_rfl), og (tp (by kernel_rfl)) (by kernel_rfl), og (tp (by kernel_rfl)) (by kernel_rfl), og (tp ?_) (by kernel_rfl), og (tp ?_) (by kernel_rfl), og (tp (by kernel_rfl)) (by kernel_rfl), og (tp (by kernel_rfl)) (by kernel_rfl), og (tp (by kernel_rfl)) (by kernel_rfl), og (tc ((HM yW bW).mono (by rintro e w9 ⟨rfl, rfl⟩; exact ⟨rfl, Below.refl _ _⟩)) (by kernel_rfl)) (by kernel_rfl), og (tp ?_) (by kernel_rfl), og (tc ((HT yW).mono (by rintro e w9 ⟨rfl, rfl⟩; exact ⟨rfl, Below.refl _ _⟩)) (by kernel_rfl)) (by kernel_rfl), og (tp ?_) (by kernel_rfl), trivial⟩
        all_goals
          simp only [fillK, putT, List.setIfInBounds_toArray, List.set_cons_zero, List.set_cons_succ]
          unfold execOp
          go_simp
          try rfl
      clear F ivh aph
      obtain ⟨y, hy⟩ : ∃ z, z = yW := ⟨_, rfl⟩
      rw [← hy] at bW ⊢
      clear hy
      refine st_do (i := 15) (by kernel_rfl) rfl rfl rfl (w' := y.setCell ⟨g, I + k, none⟩ (.int .u8 (V))) ?_ ?_
      · have x1 := (bW.cell (p := ⟨g, _, none⟩) hgs).trans c1
        have x3 : y.frozen? ⟨g, I + k, none⟩ = false := (own_below hown bW).frozenAt (I + k)
        simp only [fillK, putT, List.setIfInBounds_toArray, List.set_cons_zero, List.set_cons_succ]
        unfold execOp
        go_simp
      refine wpAny_done (by kernel_rfl) ?_ _
      simp only [fillK, putT, List.setIfInBounds_toArray, List.set_cons_zero, List.set_cons_succ]
      have hs := HS.out y (own_below hown bW)
      have hg2 : W.grownBy (y.setCell ⟨g, I + k, none⟩ (.int .u8 V)) (some g) := grown_trans (grown_trans hg (grown_of_below bW)) hs.2
      have HO : Hid _ := hs.1
      have HG : Hid _ := hg2
      clear hs hg2
      generalize y.setCell ⟨g, I + k, none⟩ (.int .u8 V) = Y at HO HG ⊢
      go_wp2
      go_roundw
      case rel => exact ⟨k + 1, by omega, by go_num, HO.out, HG.out⟩
      case measure => simp [intOf]; omega
    · have hkn : k = nz := by omega
      subst hkn
      have gg := grown_trans g0 hg
      go_wp2
      go_end0
      exact ⟨⟨_, rfl⟩, hown, gg⟩

theorem turnSet (lo g nB cB : Nat) (bs : List Int) (I : Nat) (pl : Option Addr) (np cp : Nat) (az : Option Addr) (nz cz : Nat) (zs : List Int) (am : Option Addr) (nm cm : Nat) (ms : List Int) (w : World)
    (ho : w.ownsRow lo 5 1 (.slice (some ⟨g, 0, none⟩) nB cB) nB (U8 bs)) (hpl : nz = 0 ∨ pl = some ⟨g, I, none⟩ ∧ nz ≤ np) (hz : Bs w az nz cz zs) (hm : Bs w am nm cm ms)
    (fz : OffB az nz g) (fm : OffB am nm g) (hI : I + nz ≤ nB) (hn : nB ≤ 2097152) (hmn : nm ≤ 2097152) :
    Calls Try.prog 69 #[.slice pl np cp, .int .i64 1, .slice az nz cz, .slice am nm cm] w fun e w' => (∃ v, e = .returned v) ∧ w'.ownsRow lo 5 1 (.slice (some ⟨g, 0, none⟩) nB cB) nB (U8 (tn (fun i b => bits .or .u8 b (bits .and .u8 (zs.getD i 0) (mk ms i))) bs I nz)) ∧ w.grownBy w' (some g) := by
  have hbl : bs.length = nB := (own_shape ho).1
  obtain ⟨f, hf⟩ : ∃ f : Nat → Int → Int, f = fun i b => bits .or .u8 b (bits .and .u8 (zs.getD i 0) (mk ms i)) := ⟨_, rfl⟩
  rw [← hf]
  have HFF : Hid _ := hf
  clear hf
  have hgs0 := (ho.lt g rfl).2
  go_enter Try.func69, Try.ntmps69
  go_wp2_with fail
  refine (implTurnings _).mono ?_
  rintro e w1 ⟨rfl, b1⟩
  obtain ⟨W, hW⟩ : ∃ W, W = w1.alloc (.cells #[.func (.func 98) #[] #[]] 89) := ⟨_, rfl⟩
  have hix : ∀ U : World, (Instr.index 90 (.agg #[.func (.func 97) #[] #[], .func (.func 98) #[] #[]]) (.int .i64 1)).run Try.prog U = .ok (.agg #[.func (.func 98) #[] #[]]) U := fun U => by kernel_rfl
  have AT : Arr W w1.heap.size 89 [.func (.func 98) #[] #[]] := by rw [hW]; exact Arr.new w1 _ _
  have bW : Below w.heap.size w W := by rw [hW]; exact b1.alloc b1.size _
  have ne1 : w1.heap.size ≠ g := by have := b1.size; omega
  have g0 : w.grownBy W (some g) := grown_of_below bW
  have ho0 : W.ownsRow lo 5 1 (.slice (some ⟨g, 0, none⟩) nB cB) nB (U8 (tn f bs I 0)) := by rw [tn_zero]; exact own_below ho bW
  have hz1 := hz.below bW
  have hm1 := hm.below bW
  clear b1 bW hz hm ho
  go_wp2
  rw [← hW]
  clear hW hix
  go_loopw [16] (fun i wr => ∃ k : Nat, k ≤ nz ∧ i = .int .i64 k ∧ wr.ownsRow lo 5 1 (.slice (some ⟨g, 0, none⟩) nB cB) nB (U8 (tn f bs I k)) ∧ W.grownBy wr (some g)) (fun i _ => nz - (intOf i).toNat)
  case atStart => exact ⟨0, Nat.zero_le _, rfl, ho0, World.grownBy.refl _ _⟩
  case round =>
    obtain ⟨k, hk, rfl, hown, hg⟩ := hrel
    clear ho0
    by_cases hlt : k < nz
    · have hltI : (k : Int) < (nz : Int) := by omega
      obtain ⟨rfl, hnp⟩ : pl = some ⟨g, I, none⟩ ∧ nz ≤ np := by
        rcases hpl with h | h
        · omega
        · exact h
      have hkp : (k : Int) < (np : Int) := by omega
      have A : Arr wr w1.heap.size 89 [.func (.func 98) #[] #[]] := AT.grown hg ne1
      have X := hz1.grownO hg fz
      have M := hm1.grownO hg fm
      obtain ⟨_, hzl, _, _, hX⟩ := X
      rcases hX with hX | ⟨bx, ox, rfl, hbx, hcx⟩
      · omega
      obtain ⟨x, ex⟩ : ∃ x, x = zs.getD k 0 := ⟨_, rfl⟩
      have c2 : wr.cell? ⟨bx, ox + k, none⟩ = some (.int .u8 x) := by rw [ex]; exact hcx k hlt
      obtain ⟨m, em⟩ : ∃ m, m = mk ms k := ⟨_, rfl⟩
      have HM := fun y (b : Below wr.heap.size wr y) => implMaskAt am nm cm ms k y (M.below b) (by omega) (by omega)
      rw [← em] at HM
      obtain ⟨y0, ey⟩ : ∃ y, y = bs.getD (I + k) 0 := ⟨_, rfl⟩
      have c1 : wr.cell? ⟨g, I + k, none⟩ = some (.int .u8 y0) := by
        rw [hown.cellAt (I + k) (by omega)]
        have e1 := tn_get f bs I k (I + k) (by omega)
        rw [if_neg (by omega), ← ey] at e1
        have h2 : I + k < (tn f bs I k).length := by rw [tn_len]; omega
        simp only [List.getD_eq_getElem?_getD, List.getElem?_eq_getElem h2, Option.getD_some] at e1
        simp [h2, e1]
      have hgs : g < wr.heap.size := (hown.lt g rfl).2
      have c0 := A.cell 0
      simp at c0
      obtain ⟨V, eV⟩ : ∃ V, V = bits .or .u8 y0 (bits .and .u8 x m) := ⟨_, rfl⟩
      have HT := fun y => implSet y0 (bits .and .u8 x m) y
      rw [← eV] at HT
      have HS : Hid (∀ U : World, U.ownsRow lo 5 1 (.slice (some ⟨g, 0, none⟩) nB cB) nB (U8 (tn f bs I k)) → (U.setCell ⟨g, I + k, none⟩ (.int .u8 V)).ownsRow lo 5 1 (.slice (some ⟨g, 0, none⟩) nB cB) nB (U8 (tn f bs I (k + 1))) ∧ U.grownBy (U.setCell ⟨g, I + k, none⟩ (.int .u8 V)) (some g)) := by
        intro U hU
        have := hU.stored (I + k) (.int .u8 V)
        rw [tn_set f bs I k (by omega) V (by rw [eV, HFF.out]; simp only; rw [← ex, ← em, ← ey])] at this
        exact this
      clear ex em ey hcx M eV
      go_wp2
      try simp only [Act.put]
      refine tameG [kc 21 (.slice (some ⟨g, I, none⟩) np cp), kc 22 (.int .i64 (k : Int)), kc 23 (.pointer (some ⟨w1.heap.size, 0, none⟩)), kc 24 (.func (.func 98) #[] #[]), kc 25 (.slice (some ⟨g, I, none⟩) np cp), kc 26 (.int .i64 (k : Int)), kc 27 (.pointer (some ⟨g, I + k, none⟩)), kc 28 (.int .u8 (y0)), kc 29 (.int .u8 (x)), kc 30 (.slice am nm cm), kc 31 (.int .i64 (k : Int)), kc 32 (.int .u8 (m)), kc 33 (.int .u8 (bits .and .u8 x m)), kc 34 (.int .u8 (V)), kc 35 (.pointer (some ⟨g, I + k, none⟩))] 15 (by kernel_rfl) (by kernel_rfl) (by kernel_rfl) (by repeat' first | exact trivial | apply kc_keeps | constructor) 1 (by kernel_rfl) (fun vv ll hh yW bW => ?_) (fun vv ll hh yW bW F ivh aph => ?_)
      · have x0 := (bW.cell (p := ⟨w1.heap.size, 0, none⟩) A.lt).trans c0
        have x1 := (bW.cell (p := ⟨g, _, none⟩) hgs).trans c1
        refine ⟨og (tp (by kernel_rfl)) (by kernel_rfl), og (tp (by kernel_rfl)) (by kernel_rfl), og (tp (by kernel_rfl)) (by kernel_rfl), og (tp ?_) (by kernel_rfl), og (tp (by kernel_rfl)) (by kernel_rfl), og (tp (by kernel_rfl)) (by kernel_rfl), og (tp ?_) (by kernel_rfl), og (tp ?_) (by kernel_rfl), og (tp (by kernel_rfl)) (by kernel_rfl), og (tp (by kernel_rfl)) (by kernel_rfl), og (tp (by kernel_rfl)) (by kernel_rfl), og (tc ((HM yW bW).mono (by rintro e w9 ⟨rfl, rfl⟩; exact ⟨rfl, Below.refl _ _⟩)) (by kernel_rfl)) (by kernel_rfl), og (tp ?_) (by kernel_rfl), og (tc ((HT yW).mono (by rintro e w9 ⟨rfl, rfl⟩; exact ⟨rfl, Below.refl _ _⟩)) (by kernel_rfl)) (by kernel_rfl), og (tp ?_) (by kernel_rfl), trivial⟩
        all_goals
          simp only [fillK, putT, List.setIfInBounds_toArray, List.set_cons_zero, List.set_cons_succ]
          unfold execOp
          go_simp
          try rfl
      clear F ivh aph
      obtain ⟨y, hy⟩ : ∃ z, z = yW := ⟨_, rfl⟩
      rw [← hy] at bW ⊢
      clear hy
      refine st_do (i := 15) (by kernel_rfl) rfl rfl rfl (w' := y.setCell ⟨g, I + k, none⟩ (.int .u8 (V))) ?_ ?_
      · have x1 := (bW.cell (p := ⟨g, _, none⟩) hgs).trans c1
        have x3 : y.frozen? ⟨g, I + k, none⟩ = false := (own_below hown bW).frozenAt (I + k)
        simp only [fillK, putT, List.setIfInBounds_toArray, List.set_cons_zero, List.set_cons_succ]
        unfold execOp
        go_simp
      refine wpAny_done (by kernel_rfl) ?_ _
      simp only [fillK, putT, List.setIfInBounds_toArray, List.set_cons_zero, List.set_cons_succ]
      have hs := HS.out y (own_below hown bW)
      have hg2 : W.grownBy (y.setCell ⟨g, I + k, none⟩ (.int .u8 V)) (some g) := grown_trans (grown_trans hg (grown_of_below bW)) hs.2
      have HO : Hid _ := hs.1
      have HG : Hid _ := hg2
      clear hs hg2
      generalize y.setCell ⟨g, I + k, none⟩ (.int .u8 V) = Y at HO HG ⊢
      go_wp2
      go_roundw
      case rel => exact ⟨k + 1, by omega, by go_num, HO.out, HG.out⟩
      case measure => simp [intOf]; omega
    · have hkn : k = nz := by omega
      subst hkn
      have gg := grown_trans g0 hg
      go_wp2
      go_end0
      exact ⟨⟨_, rfl⟩, hown, gg⟩
end Go.Proofs.Ytcnlpdpbkkjkoaa

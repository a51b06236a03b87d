/-
  What is proved here: the contract of the specification's l5mod: a number in at most 33 parts modulo the order; the contract of the specification's l5draw: a multiplier, drawn out of a code.
-/
import Derived.Test.YtoblilngppjmhaaDoorZOn0
import Derived.Test.YtoblilngppjmhaaDoorZFs
import Derived.Test.YtoblilngppjmhaaDoorZFn
import Derived.Test.YtoblilngppjmhaaDoorZHdq
namespace Go.Proofs.YtoblilngppjmhaaDoor
open Go.RowKit
set_option maxRecDepth 100000

theorem i64_bit1 {x : Int} (h0 : 0 ≤ x) (h1 : x < 9223372036854775808) : bits .and .i64 x 1 = x % 2 :=
  bits_mask .i64 63 (by decide) (fun n a b => by rw [IntKind.wrap_i64]; omega) 1 (by decide) x h0 h1
/-- The cells of l5mod: the result's, and the number so far; the slice is older. -/
structure MP (w W : World) (r : List Int) : Prop where
  fr : Below w.heap.size w W
  pz : Arr W w.heap.size 82 (I64 Z16)
  pr : Arr W (w.heap.size + 1) 82 (I64 r)
theorem MP.go {w A B : World} {r : List Int} (h : MP w A r) (hb : Below A.heap.size A B) : MP w B r := ⟨h.fr.trans (hb.mono h.fr.size), h.pz.kept hb, h.pr.kept hb⟩
theorem MP.put {w W : World} {r : List Int} (h : MP w W r) (s : List Int) (hl : (I64 r).length = (I64 s).length) : MP w (W.setCells (w.heap.size + 1) 0 (I64 s)) s :=
  ⟨setCells_below (by omega) _ _ h.fr, Arr.setCellsO (by omega) _ _ h.pz, Arr.setCells0 h.pr hl⟩
theorem one_e (l : List Int) : ∀ v ∈ I64 l, v.oneCell' = true := by
  intro v hv
  obtain ⟨x, _, rfl⟩ := List.mem_map.1 hv
  rfl

set_option maxHeartbeats 4000000 in
theorem specMod (a : Option Addr) (n c : Nat) (xs : List Int) (w : World) (hx : Is w a n c xs) (hm : Lm xs) (hn : n ≤ 33) :
    Calls Tryd.prog 141 #[.slice a n c] w fun e w' => e = .returned (.agg (I64 (redO (val xs))).toArray) ∧ Below w.heap.size w w' := by
  have hl := hx.2.1
  have hbit := fun j hj => bitO hl hm j hj
  have h0 := val_nonneg (fun x hx => (hm x hx).1)
  obtain ⟨N, hN⟩ := Int.eq_ofNat_of_zero_le h0
  have hNb : N < 2 ^ (16 * n) := by
    have h1 := val_lt hm
    rw [hl, hN] at h1
    have e : (2 : Nat) ^ (16 * n) = 65536 ^ n := by rw [Nat.pow_mul]
    rw [e]
    have e2 : ((65536 : Int)) ^ n = ((65536 ^ n : Nat) : Int) := by rw [Int.natCast_pow]; rfl
    rw [e2] at h1
    exact Int.ofNat_lt.1 h1
  rw [hN, Int.toNat_natCast] at hbit
  obtain ⟨F, hF⟩ : ∃ F : Nat → List Int, ∀ m, F m = redO ((N / 2 ^ m : Nat) : Int) := ⟨fun m => redO ((N / 2 ^ m : Nat) : Int), fun _ => rfl⟩
  have HL : Hid (∀ m, (F m).length = 16 ∧ Lm (F m) ∧ val (F m) < qO) := by unfold Hid; intro m; rw [hF]; exact (scOk_iff _).1 (redO_ok _)
  have HE : Hid (Z16 = F (16 * n)) := by unfold Hid; rw [hF, Nat.div_eq_of_lt hNb]; decide
  have HS : Hid (∀ j, j < 16 * n → redO (2 * val (F (j + 1)) + xs.getD (j / 16) 0 / 2 ^ (j % 16) % 2) = F j) := by
    unfold Hid; intro j hj; rw [hbit j hj, hF, hF]; exact redO_twice N j
  have hres : redO (val xs) = F 0 := by rw [hN, hF, Nat.pow_zero, Nat.div_one]
  rw [hres]
  have HX := fun k (hk : k < n) => gD_lm hm k
  clear hres hF hbit hN hNb h0
  obtain ⟨W, hW⟩ : ∃ W, W = (w.alloc (.cells #[.int .i64 0, .int .i64 0, .int .i64 0, .int .i64 0, .int .i64 0, .int .i64 0, .int .i64 0, .int .i64 0, .int .i64 0, .int .i64 0, .int .i64 0, .int .i64 0, .int .i64 0, .int .i64 0, .int .i64 0, .int .i64 0] 82)).alloc (.cells #[.int .i64 0, .int .i64 0, .int .i64 0, .int .i64 0, .int .i64 0, .int .i64 0, .int .i64 0, .int .i64 0, .int .i64 0, .int .i64 0, .int .i64 0, .int .i64 0, .int .i64 0, .int .i64 0, .int .i64 0, .int .i64 0] 82) := ⟨_, rfl⟩
  have EE : MP w W Z16 := by
    rw [hW]
    refine ⟨((Below.refl _ _).alloc (Nat.le_refl _) _).alloc (by simp) _, (Arr.new w (I64 Z16) _).alloc _, ?_⟩
    have := Arr.new (w.alloc (.cells (I64 Z16).toArray 82)) (I64 Z16) 82
    rw [World.size_alloc] at this
    exact this
  rw [HE.out] at EE
  have s1 : IntKind.i64.wrap (16 * (n : Int)) = 16 * (n : Int) := by rw [IntKind.wrap_i64]; omega
  have s2 : IntKind.i64.wrap (16 * (n : Int) - 1) = 16 * (n : Int) - 1 := by rw [IntKind.wrap_i64]; omega
  have hu : Tryd.prog.underlying 82 = some (.array 16 3) := Tryd.underlying82
  clear HE
  go_enter Tryd.func141, Tryd.ntmps141
  go_wp2
  rw [← hW]
  clear hW
  go_loopw [4] (fun i wr => ∃ (m : Nat) (z : Int), m ≤ 16 * n ∧ z = (m : Int) - 1 ∧ i = .int .i64 z ∧ MP w wr (F m)) (fun i _ => (intOf i + 1).toNat)
  case atStart => exact ⟨16 * n, 16 * (n : Int) - 1, by omega, by omega, rfl, EE⟩
  case round =>
    clear EE s1 s2
    obtain ⟨m, z, hmn, hz, rfl, EE⟩ := hrel
    obtain ⟨R, hR⟩ : ∃ R, R = F m := ⟨_, rfl⟩
    rw [← hR] at EE
    have hRl : R.length = 16 := by rw [hR]; exact (HL.out m).1
    have hRm : Lm R := by rw [hR]; exact (HL.out m).2.1
    have hRv : val R < qO := by rw [hR]; exact (HL.out m).2.2
    have hir : (Tryd.prog.info? 82).map (·.size) = some (I64 R).toArray.size := by simpa [hRl] using infoE
    have hirl : (Tryd.prog.info? 82).map (·.size) = some (I64 R).length := by simpa [hRl] using infoE
    have HR : Hid _ := hR
    clear hR
    by_cases hm0 : m = 0
    · have hz0 : z < 0 := by omega
      have hz1 : ¬ (0 ≤ z) := by omega
      have HRR : Hid (R = F 0) := by unfold Hid; rw [HR.out, hm0]
      have hpr := EE.pr
      have hpz := EE.pz
      have hp2 := hpz.row (I64 R)
      have hb2 := setRow_below EE.fr w.heap.size (I64 R).toArray (Nat.le_refl _)
      clear HR hz hm0 EE
      go_wp2_with (first
        | (refine wpList_load_row rfl 82 _ rfl (w.heap.size + 1) rfl 82 (I64 R).toArray (0, 0) _ hpr Tryd.underlying82 rfl hir ?_)
        | (refine wpList_store_row rfl 82 _ _ rfl w.heap.size (I64 R).toArray rfl rfl 82 _ hpz hir (by simp [hRl]) (by simp [Value.oneCell']) ?_))
      exact bodyPost_ret (results_cell_row rfl _ _ w.heap.size 82 (I64 R).toArray (0, 0) _ rfl hp2 Tryd.underlying82 rfl hir) rfl ⟨by rw [HRR.out], hb2⟩
    · obtain ⟨j, rfl⟩ : ∃ j, m = j + 1 := ⟨m - 1, by omega⟩
      obtain rfl : z = (j : Int) := by omega
      clear hz hm0
      obtain ⟨x, hxx⟩ : ∃ x, x = xs.getD (j / 16) 0 := ⟨_, rfl⟩
      have hxb := HX (j / 16) (by omega)
      rw [← hxx] at hxb
      have hj0 : (0 : Int) ≤ (j : Int) := by omega
      obtain ⟨q, hq⟩ : ∃ q, q = j / 16 := ⟨_, rfl⟩
      have hq1 : (j : Int) / 16 = (q : Int) := by omega
      have hq2 : (q : Int) < (n : Int) := by omega
      have hq3 : (0 : Int) ≤ (q : Int) := by omega
      have hy0 : 0 ≤ x / 2 ^ (j % 16) := Int.ediv_nonneg hxb.1 (Int.le_of_lt (Int.pow_pos (by omega)))
      have hy1 : x / 2 ^ (j % 16) ≤ x := Int.ediv_le_self _ hxb.1
      obtain ⟨b, hb⟩ : ∃ b, b = x / 2 ^ (j % 16) % 2 := ⟨_, rfl⟩
      have hand : bits .and .i64 (x / 2 ^ (j % 16)) 1 = b := by rw [hb]; exact i64_bit1 hy0 (by omega)
      have hbb : 0 ≤ b ∧ b ≤ 1 := by rw [hb]; omega
      have hT := HS.out j (by omega)
      rw [← HR.out, ← hxx, ← hb] at hT
      obtain ⟨T, hTT⟩ : ∃ T, T = F j := ⟨_, rfl⟩
      rw [← hTT] at hT
      have hTl : T.length = 16 := by rw [hTT]; exact (HL.out j).1
      have hit : (Tryd.prog.info? 82).map (·.size) = some (I64 T).toArray.size := by simpa [hTl] using infoE
      have HTW : Hid (∀ Z, Calls Tryd.prog 148 #[.agg (I64 R).toArray, .int .i64 b] Z fun e w' => e = .returned (.agg (I64 T).toArray) ∧ Below Z.heap.size Z w') := by
        unfold Hid; intro Z
        have := specTwice R b Z hRl hRm hRv hbb.1 hbb.2
        rw [hT] at this
        exact this
      have HTT : Hid _ := hTT
      obtain ⟨_, _, hcn, _, hcc⟩ := hx
      rcases hcc with hcc | ⟨B, o, rfl, hBs, hcell⟩
      · omega
      have HCE : Hid (∀ V, Below w.heap.size w V → V.cell? ⟨B, o + q, none⟩ = some (.int .i64 x)) := by
        unfold Hid; intro V hV; rw [hxx, hq]; exact (hV.cell (p := ⟨B, o + j / 16, none⟩) hBs).trans (hcell (j / 16) (by omega))
      have hone := one_e T
      obtain ⟨y, hy⟩ : ∃ y, y = x / 2 ^ (j % 16) := ⟨_, rfl⟩
      have hwq : IntKind.i64.wrap (q : Int) = (q : Int) := by rw [IntKind.wrap_i64]; omega
      have hrem : (j : Int).tmod 16 = (j : Int) % 16 := Int.tmod_eq_emod_of_nonneg hj0
      have hsh : ((j : Int) % 16).toNat = j % 16 := by omega
      clear hT hTT hb hxx hcell hq
      go_wp2
      replace EE : MP w wr.drew R := EE.go (Below.refl _ _).drew
      have hc0 := HCE.out _ EE.fr
      refine wp_region_held_drew (S := fun W => W.cell? ⟨B, o + q, none⟩ = some (.int .i64 x)) (by kernel_rfl) hc0 (fun hHeld => ?_)
      obtain ⟨wD, hD⟩ : ∃ V, V = wr.drew := ⟨_, rfl⟩
      rw [← hD] at hHeld EE hc0 ⊢
      clear hD
      refine wpAnyH_take (i := 1) (oi := { dst := some 14, op := Op.move (Operand.tmp 0), type := 23, pos := "l05_scalar.go:61", after := #[], guard := none }) (v := .slice (some ⟨B, o, none⟩) n c) rfl (by kernel_rfl) (by kernel_rfl) (by kernel_rfl) (fun _ _ _ h => h) (.inl ⟨by rfl, fun _ _ => by rfl⟩) (by assumption) ?_
      simp only [Act.put, List.setIfInBounds_toArray, List.set_cons_zero, List.set_cons_succ]
      refine wpAnyH_take (i := 2) (oi := { dst := some 15, op := Op.move (Operand.tmp 4), type := 3, pos := "l05_scalar.go:61", after := #[], guard := none }) (v := .int .i64 (j : Int)) rfl (by kernel_rfl) (by kernel_rfl) (by kernel_rfl) (fun _ _ _ h => h) (.inl ⟨by rfl, fun _ _ => by rfl⟩) (by assumption) ?_
      simp only [Act.put, List.setIfInBounds_toArray, List.set_cons_zero, List.set_cons_succ]
      refine wpAnyH_take (i := 3) (oi := { dst := some 16, op := Op.binOp BinOp.quo 3 (Operand.tmp 15) (Operand.const (Value.int IntKind.i64 16)) 3, type := 3, pos := "l05_scalar.go:61", after := #[{ on := 2, ground := Ground.data }], guard := none }) (v := .int .i64 (q : Int)) rfl (by kernel_rfl) (by kernel_rfl) (by kernel_rfl) (fun _ _ _ h => h) (.inl ⟨by rfl, fun W hW => by simp [go_sem, *]⟩) (by assumption) ?_
      simp only [Act.put, List.setIfInBounds_toArray, List.set_cons_zero, List.set_cons_succ]
      refine wpAnyH_take (i := 4) (oi := { dst := some 17, op := Op.indexAddr 23 (Operand.tmp 14) (Operand.tmp 16), type := 0, pos := "l05_scalar.go:61", after := #[{ on := 1, ground := Ground.data }, { on := 3, ground := Ground.data }], guard := none }) (v := .pointer (some ⟨B, o + q, none⟩)) rfl (by kernel_rfl) (by kernel_rfl) (by kernel_rfl) (fun _ _ _ h => h) (.inl ⟨by rfl, fun W hW => by simp [go_sem, *]⟩) (by assumption) ?_
      simp only [Act.put, List.setIfInBounds_toArray, List.set_cons_zero, List.set_cons_succ]
      refine wpAnyH_take (i := 5) (oi := { dst := some 18, op := Op.load 3 (Operand.tmp 17), type := 3, pos := "l05_scalar.go:61", after := #[{ on := 4, ground := Ground.data }], guard := none }) (v := .int .i64 x) rfl (by kernel_rfl) (by kernel_rfl) (by kernel_rfl) (fun _ _ _ h => h) (.inl ⟨by rfl, fun W hW => by simp [go_sem, *]⟩) (by assumption) ?_
      simp only [Act.put, List.setIfInBounds_toArray, List.set_cons_zero, List.set_cons_succ]
      refine wpAnyH_take (i := 6) (oi := { dst := some 19, op := Op.move (Operand.tmp 4), type := 3, pos := "l05_scalar.go:61", after := #[], guard := none }) (v := .int .i64 (j : Int)) rfl (by kernel_rfl) (by kernel_rfl) (by kernel_rfl) (fun _ _ _ h => h) (.inl ⟨by rfl, fun _ _ => by rfl⟩) (by assumption) ?_
      simp only [Act.put, List.setIfInBounds_toArray, List.set_cons_zero, List.set_cons_succ]
      refine wpAnyH_take (i := 7) (oi := { dst := some 20, op := Op.binOp BinOp.rem 3 (Operand.tmp 19) (Operand.const (Value.int IntKind.i64 16)) 3, type := 3, pos := "l05_scalar.go:61", after := #[{ on := 6, ground := Ground.data }], guard := none }) (v := .int .i64 ((j : Int) % 16)) rfl (by kernel_rfl) (by kernel_rfl) (by kernel_rfl) (fun _ _ _ h => h) (.inl ⟨by rfl, fun W hW => by simp [go_sem, *]⟩) (by assumption) ?_
      simp only [Act.put, List.setIfInBounds_toArray, List.set_cons_zero, List.set_cons_succ]
      refine wpAnyH_take (i := 8) (oi := { dst := some 21, op := Op.binOp BinOp.shr 3 (Operand.tmp 18) (Operand.tmp 20) 3, type := 3, pos := "l05_scalar.go:61", after := #[{ on := 5, ground := Ground.data }, { on := 7, ground := Ground.data }], guard := none }) (v := .int .i64 y) rfl (by kernel_rfl) (by kernel_rfl) (by kernel_rfl) (fun _ _ _ h => h) (.inl ⟨by rfl, fun W hW => by simp [go_sem, *]⟩) (by assumption) ?_
      simp only [Act.put, List.setIfInBounds_toArray, List.set_cons_zero, List.set_cons_succ]
      refine wpAnyH_take (i := 9) (oi := { dst := some 22, op := Op.binOp BinOp.and 3 (Operand.tmp 21) (Operand.const (Value.int IntKind.i64 1)) 3, type := 3, pos := "l05_scalar.go:61", after := #[{ on := 8, ground := Ground.data }], guard := none }) (v := .int .i64 b) rfl (by kernel_rfl) (by kernel_rfl) (by kernel_rfl) (fun _ _ _ h => h) (.inl ⟨by rfl, fun W hW => by simp [go_sem, *]⟩) (by assumption) ?_
      simp only [Act.put, List.setIfInBounds_toArray, List.set_cons_zero, List.set_cons_succ]
      refine wpAnyH_ready (rs := [0]) (by kernel_rfl) (by simp) (AllReadyH.cons (o := { dst := some 13, op := Op.load 82 (Operand.tmp 3), type := 82, pos := "l05_scalar.go:61", after := #[], guard := none }) rfl (fun K hK => ?_) AllReadyH.nil)
      rw [if_pos (by rfl)]
      refine wp_load_mid _ _ rfl _ _ rfl (I64 R) _ (arr_range EE.pr) hu rfl hirl ?_
      simp only [Act.put, List.setIfInBounds_toArray, List.set_cons_zero, List.set_cons_succ]
      refine hK.out _ _ hc0 (fun hHeld => ?_)
      clear hK K
      refine wpAnyH_ready (rs := [10]) (by kernel_rfl) (by simp) (AllReadyH.cons (o := { dst := some 23, op := Op.call { callee := Callee.value (Operand.func 148), args := #[Operand.tmp 13, Operand.tmp 22], argTypes := #[82, 3] }, type := 82, pos := "l05_scalar.go:61", after := #[{ on := 0, ground := Ground.data }, { on := 9, ground := Ground.data }], guard := none }) rfl (fun K hK => ?_) AllReadyH.nil)
      go_simp
      refine (HTW.out _).mono ?_
      rintro e w4 ⟨rfl, hb4⟩
      replace EE := EE.go hb4
      clear hb4 hc0
      have hc0 := HCE.out _ EE.fr
      go_wp2_with fail
      refine hK.out _ _ hc0 (fun hHeld => ?_)
      clear hK K
      have hth : w4.there (w.heap.size + 1) 0 (I64 T).toArray.size := by simpa [hRl, hTl] using arr_there EE.pr
      have E5 := EE.put T (by simp [hRl, hTl])
      have hc5 := HCE.out _ E5.fr
      rw [HTT.out] at E5
      have HE5 : Hid _ := E5
      rw [← HTT.out] at HE5
      refine wpAnyH_ready (rs := [11]) (by kernel_rfl) (by simp) (AllReadyH.cons (o := { dst := none, op := Op.store 82 (Operand.tmp 3) (Operand.tmp 23), type := 0, pos := "l05_scalar.go:61", after := #[{ on := 10, ground := Ground.data }, { on := 10, ground := Ground.chain }, { on := 0, ground := Ground.phase }, { on := 1, ground := Ground.phase }, { on := 2, ground := Ground.phase }, { on := 3, ground := Ground.phase }, { on := 4, ground := Ground.phase }, { on := 5, ground := Ground.phase }, { on := 6, ground := Ground.phase }, { on := 7, ground := Ground.phase }, { on := 8, ground := Ground.phase }, { on := 9, ground := Ground.phase }, { on := 10, ground := Ground.phase }], guard := none }) rfl (fun K hK => ?_) AllReadyH.nil)
      rw [if_pos (by rfl)]
      refine wp_store_mid _ _ _ rfl _ _ (I64 T).toArray rfl rfl hth hit (all_oneCell_toArray hone) ?_
      simp only [Act.put]
      refine hK.out _ _ hc5 (fun hHeld => ?_)
      clear hK K
      refine wpAnyH_done (by kernel_rfl) ?_ _
      clear hHeld hc0 hc5 E5
      go_wp2
      go_roundw
      case rel => exact ⟨j, (j : Int) - 1, by omega, rfl, by go_num, HTT.out ▸ HE5.out⟩
      case measure => simp [intOf]
end Go.Proofs.YtoblilngppjmhaaDoor
namespace Go.Proofs.YtoblilngppjmhaaDoor
open Go.RowKit
set_option maxRecDepth 100000

theorem lim_okO {x : Int} (h0 : 0 ≤ x) (h1 : x < qO) : scOk (lim 16 x) = true :=
  (scOk_iff _).2 ⟨lim_len _ _, lim_lm _ _, by rw [val_lim, p256]; unfold qO at *; omega⟩
theorem tk_okO {x : Int} (h0 : 0 < x) (h1 : x < qO) : scOk (tk16 OL (lim 16 x)) = true := by
  rw [tk16_lim OL_len (lim_len _ _), OL_val, val_lim, p256]
  refine lim_okO ?_ ?_ <;> (unfold qO at *; omega)
set_option maxHeartbeats 2000000 in
theorem curDraw5 (p : Nat) (a : Option Addr) (n c : Nat) (xs : List Int) (w : World) (hcur : Cur w p a n c) (hcode : Coded w p a n c xs) :
    Calls Tryd.prog 115 #[.pointer (some ⟨p, 0, none⟩)] w fun e w' => ∃ l, e = .returned (.agg (I64 l).toArray) ∧ scOk l = true ∧ Cur w' p a n c ∧ w.grownBy w' (some p) := by
  have hp0 := cur_lt hcur
  obtain ⟨W, hW⟩ : ∃ W, W = w.alloc (.cells #[.int .i64 0, .int .i64 0, .int .i64 0, .int .i64 0, .int .i64 0, .int .i64 0, .int .i64 0, .int .i64 0, .int .i64 0, .int .i64 0, .int .i64 0, .int .i64 0, .int .i64 0, .int .i64 0, .int .i64 0, .int .i64 0] 82) := ⟨_, rfl⟩
  have DD : Dq w W p a n c xs := by
    rw [hW]
    exact ⟨grown_alloc _ _ _, cur_keep hcur (grown_alloc _ _ none) (by simp), hcode, Arr.new w (I64 Z16) _, hp0⟩
  have FIN : Hid (∀ (V : World) (l : List Int), Dq w V p a n c xs → l.length = 16 → Cur (V.setRow w.heap.size (I64 l).toArray) p a n c ∧ w.grownBy (V.setRow w.heap.size (I64 l).toArray) (some p)) := by
    unfold Hid
    intro V l D _
    have hb := setRow_below (B := w.heap.size) (w := V) (w' := V) (Below.refl _ _) w.heap.size (I64 l).toArray (Nat.le_refl _)
    have hg : V.grownBy (V.setRow w.heap.size (I64 l).toArray) (some w.heap.size) := ⟨hb.os, hb.tape, hb.output, hb.size, fun k hk hne => setRow_other V w.heap.size k _ (fun e => hne (by rw [e]))⟩
    refine ⟨cur_keep D.cur hg (by intro e; have := Option.some.inj e; omega), ?_⟩
    exact grown_into D.gr hg (by intro k hk; cases hk; exact .inl (Nat.le_refl _))
  go_enter Tryd.func115, Tryd.ntmps115
  go_wp2_with fail
  rw [← hW]
  clear hW hcur hcode
  refine (curOnce p a n c xs 3 _ DD.cur DD.cod (by omega)).mono ?_
  rintro e w1 ⟨x1, rfl, hc1, hg1⟩
  replace DD := DD.draw hc1 hg1
  clear hc1 hg1
  cases x1 with
  | true =>
    have hcl := cells_arr w1 [0, 1, 2, 8, 65535] 3
    have hpw := cur_lt DD.cur
    replace DD := DD.alloc (.cells ([0, 1, 2, 8, 65535].map (Value.int .i64)).toArray 3)
    go_wp2_with fail
    refine (curPick p a n c xs w1.heap.size 5 [0, 1, 2, 8, 65535] _ DD.cur DD.cod rfl (by omega) (by omega) (by omega) hcl).mono ?_
    rintro e w2 ⟨x, rfl, hx, hc2, hg2⟩
    replace DD := DD.draw hc2 hg2
    have hxb : 0 ≤ x ∧ x < 9223372036854775808 := by simp at hx; omega
    clear hc2 hg2 hcl hpw hx
    go_wp2_with fail
    refine (specSmall x _ hxb.1 hxb.2).mono ?_
    rintro e w3 ⟨rfl, hb3⟩
    replace DD := DD.calm hb3
    clear hb3
    have hok := lim_okO (x := x) hxb.1 (by unfold qO; omega)
    obtain ⟨R, hR⟩ : ∃ R, R = lim 16 x := ⟨_, rfl⟩
    rw [← hR] at hok ⊢
    clear hR
    have hRl := ((scOk_iff R).1 hok).1
    have hpz := DD.pz
    have hp2 := hpz.row (I64 R)
    have HF : Hid _ := FIN.out _ R DD hRl
    clear DD FIN
    go_wp2_with (refine wpList_store_row rfl 82 _ _ rfl w.heap.size (I64 R).toArray rfl rfl 82 _ hpz (by simpa [hRl] using infoE) (by simp [hRl]) (by simp [Value.oneCell']) ?_)
    exact bodyPost_ret (results_cell_row rfl _ _ w.heap.size 82 (I64 R).toArray (0, 0) _ rfl hp2 Tryd.underlying82 rfl (by simpa [hRl] using infoE)) rfl ⟨R, rfl, hok, HF.out.1, HF.out.2⟩
  | false =>
    go_wp2_with fail
    refine (curOnce p a n c xs 3 _ DD.cur DD.cod (by omega)).mono ?_
    rintro e w2 ⟨x2, rfl, hc2, hg2⟩
    replace DD := DD.draw hc2 hg2
    clear hc2 hg2
    cases x2 with
    | true =>
      go_wp2_with fail
      refine (specOrder _).mono ?_
      rintro e w3 ⟨rfl, hb3⟩
      replace DD := DD.calm hb3
      clear hb3
      go_wp2_with fail
      refine (curBelow p a n c xs 9 _ DD.cur DD.cod (by omega)).mono ?_
      rintro e w4 ⟨j, rfl, hj0, hj1, _, hc4, hg4⟩
      replace hj1 := hj1 (by omega)
      replace DD := DD.draw hc4 hg4
      clear hc4 hg4
      have hw : IntKind.i64.wrap (1 + j) = 1 + j := by rw [IntKind.wrap_i64]; omega
      go_wp2_with fail
      refine (specSmall (1 + j) _ (by omega) (by omega)).mono ?_
      rintro e w5 ⟨rfl, hb5⟩
      replace DD := DD.calm hb5
      clear hb5
      go_wp2_with fail
      refine (specTake OL (lim 16 (1 + j)) _ OL_len (lim_len _ _) OL_lm (lim_lm _ _)).mono ?_
      rintro e w6 ⟨rfl, hb6⟩
      replace DD := DD.calm hb6
      clear hb6
      have hok := tk_okO (x := 1 + j) (by omega) (by unfold qO; omega)
      obtain ⟨R, hR⟩ : ∃ R, R = tk16 OL (lim 16 (1 + j)) := ⟨_, rfl⟩
      rw [← hR] at hok ⊢
      clear hR
      have hRl := ((scOk_iff R).1 hok).1
      have hpz := DD.pz
      have hp2 := hpz.row (I64 R)
      have HF : Hid _ := FIN.out _ R DD hRl
      clear DD FIN
      go_wp2_with (refine wpList_store_row rfl 82 _ _ rfl w.heap.size (I64 R).toArray rfl rfl 82 _ hpz (by simpa [hRl] using infoE) (by simp [hRl]) (by simp [Value.oneCell']) ?_)
      exact bodyPost_ret (results_cell_row rfl _ _ w.heap.size 82 (I64 R).toArray (0, 0) _ rfl hp2 Tryd.underlying82 rfl (by simpa [hRl] using infoE)) rfl ⟨R, rfl, hok, HF.out.1, HF.out.2⟩
    | false =>
      have hs0 := DD.pz.lt
      obtain ⟨B, hB⟩ : ∃ B, B = w2.heap.size := ⟨_, rfl⟩
      go_wp2
      rw [← hB] at hs0
      go_loopw [3, 4] (fun v i wr => ∃ (k : Nat) (l : List Int), k ≤ 16 ∧ i = .int .i64 k ∧ l.length = k ∧ Lm l ∧ wr.ownsRow B 3 1 v k (I64 l) ∧ Dq w wr p a n c xs ∧ B ≤ wr.heap.size) (fun _ i _ => 16 - (intOf i).toNat)
      case atStart => exact ⟨0, [], by omega, rfl, rfl, by intro x hx; simp at hx, by simpa using World.ownsRow_nil _ _ _ _, DD, by omega⟩
      case round =>
        clear DD hB
        obtain ⟨k, l, hk, rfl, hl, hm, ho, DD, hs⟩ := hrel
        have hp := DD.hp
        by_cases hlt : k < 16
        · have hk16 : (k : Int) < 16 := by omega
          have hk0 : (0 : Int) ≤ (k : Int) := by omega
          go_wp2_with fail
          refine (curBelow p a n c xs 65536 _ DD.cur DD.cod (by omega)).mono ?_
          rintro e w3 ⟨x, rfl, hx0, hx1, _, hc3, hg3⟩
          replace hx1 := hx1 (by omega)
          replace DD := DD.draw hc3 hg3
          have ho3 := ho.kept hg3 (.inr (fun e => by have h1 := (ho.lt p e).1; omega))
          have hs3 := Nat.le_trans hs hg3.size
          clear hc3 hg3 ho
          go_wp2_with (at_builtin; refine wpl_append_is rfl _ _ rfl B _ k l rfl (some ⟨w3.heap.size, 0, none⟩) 1 1 [x] rfl (ho3.alloc _) ?_ ?_ ?_ ?_)
          · exact Is.one _ _ (by omega) (by omega)
          · omega
          · first | omega | (simp; omega)
          intro v' w' h1 h2 _
          have hbA : Below B w3 w' := ((Below.refl _ _).alloc (by omega) _).grown h2 (by simp; omega) (fun j hj => (ho3.lt j hj).1)
          have DA := DD.alloc (.cells #[.int .i64 x] 3)
          have D1 : Dq w w' p a n c xs := ⟨grown_into DA.gr h2 (fun j hj => .inl (by have h3 := (ho3.lt j hj).1; omega)), cur_keep DA.cur h2 (fun e => by have h3 := (ho3.lt p e).1; omega), DD.cod0, DD.pz.below hbA hs0, DD.hp⟩
          have hs' := Nat.le_trans hs3 hbA.size
          have HR : Hid (w'.ownsRow B 3 1 v' (k + 1) (I64 (l ++ [x]))) := by unfold Hid; simpa using h1
          clear h1 h2 ho3 DD DA hbA
          go_wp2
          go_roundw
          case rel => exact ⟨k + 1, l ++ [x], by omega, by go_num, by simp [hl], by intro y hy; rcases List.mem_append.1 hy with h | h; exact hm y h; simp at h; omega, HR.out, D1, hs'⟩
          case measure => simp [intOf]; omega
        · obtain rfl : k = 16 := by omega
          obtain ⟨aL, cL, rfl, _, hIs⟩ := Is.own ho (fun x hx => by have := hm x hx; omega)
          have HM : Hid (Calls Tryd.prog 141 #[.slice aL 16 cL] wr fun e w' => e = .returned (.agg (I64 (redO (val l))).toArray) ∧ Below wr.heap.size wr w') := specMod aL 16 cL l wr hIs hm (by omega)
          clear ho hIs
          go_wp2_with fail
          refine HM.out.mono ?_
          rintro e w4 ⟨rfl, hb4⟩
          replace DD := DD.calm hb4
          clear hb4 HM
          have hok := redO_ok (val l)
          obtain ⟨R, hR⟩ : ∃ R, R = redO (val l) := ⟨_, rfl⟩
          rw [← hR] at hok ⊢
          clear hR
          have hRl := ((scOk_iff R).1 hok).1
          have hpz := DD.pz
          have hp2 := hpz.row (I64 R)
          have HF : Hid _ := FIN.out _ R DD hRl
          clear DD FIN
          go_wp2_with (refine wpList_store_row rfl 82 _ _ rfl w.heap.size (I64 R).toArray rfl rfl 82 _ hpz (by simpa [hRl] using infoE) (by simp [hRl]) (by simp [Value.oneCell']) ?_)
          exact bodyPost_ret (results_cell_row rfl _ _ w.heap.size 82 (I64 R).toArray (0, 0) _ rfl hp2 Tryd.underlying82 rfl (by simpa [hRl] using infoE)) rfl ⟨R, rfl, hok, HF.out.1, HF.out.2⟩
end Go.Proofs.YtoblilngppjmhaaDoor

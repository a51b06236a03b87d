/-
  What is proved here: the contract of the specification's l5mod: a number in at most 33 parts; whether bytes are those of a multiplier, and which, as plain functions; the contract of the specification's ScRead: a multiplier out of its bytes; the contracts of the specification's l5wide and ScWide: 64 bytes modulo; plain mathematics on lists of numbers: what SHA-512 makes of eight words; contracts of the specification's l3turn, l3round and l3first.
-/
import Derived.Test.YtihoaakbkffejaaGreatDoorFOm0
import Derived.Test.YtihoaakbkffejaaGreatDoorFFsc
import Derived.Test.YtihoaakbkffejaaGreatDoorFUc
import Derived.Test.YtihoaakbkffejaaGreatDoorFFm
import Derived.Deep.AppendLies
import Derived.Laws.BitsLemmas
import Derived.Test.YtihoaakbkffejaaGreatDoorProg
import Derived.Deep.QuietTactic
import Derived.BigQuiet
import Derived.Deep.Light
import Derived.Deep.RegionWith
namespace Go.Proofs.YtihoaakbkffejaaGreatDoor
open Go.RowKit
set_option maxRecDepth 100000

theorem i64_bit1 {x : Int} (h0 : 0 ≤ x) (h1 : x < 9223372036854775808) : bits .and .i64 x 1 = x % 2 :=
 bits_mask .i64 63 (by decide) (fun n a b => by rw [IntKind.wrap_i64]; omega) 1 (by decide) x h0 h1
structure MP (w W : World) (r : List Int) : Prop where
 fr : Below w.heap.size w W
 pz : Arr W w.heap.size 80 (I64 Z16)
 pr : Arr W (w.heap.size + 1) 80 (I64 r)
theorem MP.go {w A B : World} {r : List Int} (h : MP w A r) (hb : Below A.heap.size A B) : MP w B r := ⟨h.fr.trans (hb.mono h.fr.size), h.pz.kept hb, h.pr.kept hb⟩
theorem MP.put {w W : World} {r : List Int} (h : MP w W r) (s : List Int) (hl : (I64 r).length = (I64 s).length) : MP w (W.setCells (w.heap.size + 1) 0 (I64 s)) s :=
 ⟨setCells_below (by omega) _ _ h.fr, Arr.setCellsO (by omega) _ _ h.pz, Arr.setCells0 h.pr hl⟩
theorem one_e (l : List Int) : ∀ v ∈ I64 l, v.oneCell' = true := by
 intro v hv
 obtain ⟨x, _, rfl⟩ := List.mem_map.1 hv
 rfl

set_option maxHeartbeats 4000000 in
theorem specMod (a : Option Addr) (n c : Nat) (xs : List Int) (w : World) (hx : Is w a n c xs) (hm : Lm xs) (hn : n ≤ 33) :
  Calls Tryz.prog 121 #[.slice a n c] w fun e w' => e = .returned (.agg (I64 (redO (val xs))).toArray) ∧ Below w.heap.size w w' := by
 have hl := hx.2.1
 have hbit := fun j hj => bitO hl hm j hj
 have h0 := val_nonneg (fun x hx => (hm x hx).1)
 obtain ⟨N, hN⟩ := Int.eq_ofNat_of_zero_le h0
 have hNb : N < 2 ^ (16 * n) := by
  have h1 := val_lt hm
  rw [hl, hN] at h1
  have e : (2 : Nat) ^ (16 * n) = 65536 ^ n := by rw [Nat.pow_mul]
  rw [e]
  have e2 : ((65536 : Int)) ^ n = ((65536 ^ n : Nat) : Int) := by rw [Int.natCast_pow]; rfl
  rw [e2] at h1
  exact Int.ofNat_lt.1 h1
 rw [hN, Int.toNat_natCast] at hbit
 obtain ⟨F, hF⟩ : ∃ F : Nat → List Int, ∀ m, F m = redO ((N / 2 ^ m : Nat) : Int) := ⟨fun m => redO ((N / 2 ^ m : Nat) : Int), fun _ => rfl⟩
 have HL : Hid (∀ m, (F m).length = 16 ∧ Lm (F m) ∧ val (F m) < qO) := by unfold Hid; intro m; rw [hF]; exact (scOk_iff _).1 (redO_ok _)
 have HE : Hid (Z16 = F (16 * n)) := by unfold Hid; rw [hF, Nat.div_eq_of_lt hNb]; decide
 have HS : Hid (∀ j, j < 16 * n → redO (2 * val (F (j + 1)) + xs.getD (j / 16) 0 / 2 ^ (j % 16) % 2) = F j) := by
  unfold Hid; intro j hj; rw [hbit j hj, hF, hF]; exact redO_twice N j
 have hres : redO (val xs) = F 0 := by rw [hN, hF, Nat.pow_zero, Nat.div_one]
 rw [hres]
 have HX := fun k (hk : k < n) => gD_lm hm k
 clear hres hF hbit hN hNb h0
 obtain ⟨W, hW⟩ : ∃ W, W = (w.alloc (.cells zV 80)).alloc (.cells zV 80) := ⟨_, rfl⟩
 have EE : MP w W Z16 := by
  rw [hW]
  refine ⟨((Below.refl _ _).alloc (Nat.le_refl _) _).alloc (by simp) _, (Arr.new w (I64 Z16) _).alloc _, ?_⟩
  have := Arr.new (w.alloc (.cells (I64 Z16).toArray 80)) (I64 Z16) 80
  rw [World.size_alloc] at this
  exact this
 rw [HE.out] at EE
 have s1 : IntKind.i64.wrap (16 * (n : Int)) = 16 * (n : Int) := by rw [IntKind.wrap_i64]; omega
 have s2 : IntKind.i64.wrap (16 * (n : Int) - 1) = 16 * (n : Int) - 1 := by rw [IntKind.wrap_i64]; omega
 have hu : Tryz.prog.underlying 80 = some (.array 16 3) := Tryz.underlying80
 clear HE
 go_enter Tryz.func121, Tryz.ntmps121
 go_wp2
 rw [← hW]
 clear hW
 go_loopw [4] (fun i wr => ∃ (m : Nat) (z : Int), m ≤ 16 * n ∧ z = (m : Int) - 1 ∧ i = .int .i64 z ∧ MP w wr (F m)) (fun i _ => (intOf i + 1).toNat)
 case atStart => exact ⟨16 * n, 16 * (n : Int) - 1, by omega, by omega, rfl, EE⟩
 case round =>
  clear EE s1 s2
  obtain ⟨m, z, hmn, hz, rfl, EE⟩ := hrel
  obtain ⟨R, hR⟩ : ∃ R, R = F m := ⟨_, rfl⟩
  rw [← hR] at EE
  have hRl : R.length = 16 := by rw [hR]; exact (HL.out m).1
  have hRm : Lm R := by rw [hR]; exact (HL.out m).2.1
  have hRv : val R < qO := by rw [hR]; exact (HL.out m).2.2
  have hir : (Tryz.prog.info? 80).map (·.size) = some (I64 R).toArray.size := by simpa [hRl] using infoE
  have hirl : (Tryz.prog.info? 80).map (·.size) = some (I64 R).length := by simpa [hRl] using infoE
  have HR : Hid _ := hR
  clear hR
  by_cases hm0 : m = 0
  ·have hz0 : z < 0 := by omega
   have hz1 : ¬ (0 ≤ z) := by omega
   have HRR : Hid (R = F 0) := by unfold Hid; rw [HR.out, hm0]
   have hpr := EE.pr
   have hpz := EE.pz
   have hp2 := hpz.row (I64 R)
   have hb2 := setRow_below EE.fr w.heap.size (I64 R).toArray (Nat.le_refl _)
   clear HR hz hm0 EE
   go_wp2_with (first
    | (refine wpList_load_row rfl 80 _ rfl (w.heap.size + 1) rfl 80 (I64 R).toArray (0, 0) _ hpr Tryz.underlying80 rfl hir ?_)
    | (refine wpList_store_row rfl 80 _ _ rfl w.heap.size (I64 R).toArray rfl rfl 80 _ hpz hir (by simp [hRl]) (by simp [Value.oneCell']) ?_))
   exact bodyPost_ret (results_cell_row rfl _ _ w.heap.size 80 (I64 R).toArray (0, 0) _ rfl hp2 Tryz.underlying80 rfl hir) rfl ⟨by rw [HRR.out], hb2⟩
  ·obtain ⟨j, rfl⟩ : ∃ j, m = j + 1 := ⟨m - 1, by omega⟩
   obtain rfl : z = (j : Int) := by omega
   clear hz hm0
   obtain ⟨x, hxx⟩ : ∃ x, x = xs.getD (j / 16) 0 := ⟨_, rfl⟩
   have hxb := HX (j / 16) (by omega)
   rw [← hxx] at hxb
   have hj0 : (0 : Int) ≤ (j : Int) := by omega
   obtain ⟨q, hq⟩ : ∃ q, q = j / 16 := ⟨_, rfl⟩
   have hq1 : (j : Int) / 16 = (q : Int) := by omega
   have hq2 : (q : Int) < (n : Int) := by omega
   have hq3 : (0 : Int) ≤ (q : Int) := by omega
   have hy0 : 0 ≤ x / 2 ^ (j % 16) := Int.ediv_nonneg hxb.1 (Int.le_of_lt (Int.pow_pos (by omega)))
   have hy1 : x / 2 ^ (j % 16) ≤ x := Int.ediv_le_self _ hxb.1
   obtain ⟨b, hb⟩ : ∃ b, b = x / 2 ^ (j % 16) % 2 := ⟨_, rfl⟩
   have hand : bits .and .i64 (x / 2 ^ (j % 16)) 1 = b := by rw [hb]; exact i64_bit1 hy0 (by omega)
   have hbb : 0 ≤ b ∧ b ≤ 1 := by rw [hb]; omega
   have hT := HS.out j (by omega)
   rw [← HR.out, ← hxx, ← hb] at hT
   obtain ⟨T, hTT⟩ : ∃ T, T = F j := ⟨_, rfl⟩
   rw [← hTT] at hT
   have hTl : T.length = 16 := by rw [hTT]; exact (HL.out j).1
   have hit : (Tryz.prog.info? 80).map (·.size) = some (I64 T).toArray.size := by simpa [hTl] using infoE
   have HTW : Hid (∀ Z, Calls Tryz.prog 141 #[.agg (I64 R).toArray, .int .i64 b] Z fun e w' => e = .returned (.agg (I64 T).toArray) ∧ Below Z.heap.size Z w') := by
    unfold Hid; intro Z
    have := specTwice R b Z hRl hRm hRv hbb.1 hbb.2
    rw [hT] at this
    exact this
   have HTT : Hid _ := hTT
   obtain ⟨_, _, hcn, _, hcc⟩ := hx
   rcases hcc with hcc | ⟨B, o, rfl, hBs, hcell⟩
   ·omega
   have HCE : Hid (∀ V, Below w.heap.size w V → V.cell? ⟨B, o + q, none⟩ = some (.int .i64 x)) := by
    unfold Hid; intro V hV; rw [hxx, hq]; exact (hV.cell (p := ⟨B, o + j / 16, none⟩) hBs).trans (hcell (j / 16) (by omega))
   have hone := one_e T
   obtain ⟨y, hy⟩ : ∃ y, y = x / 2 ^ (j % 16) := ⟨_, rfl⟩
   have hwq : IntKind.i64.wrap (q : Int) = (q : Int) := by rw [IntKind.wrap_i64]; omega
   have hrem : (j : Int).tmod 16 = (j : Int) % 16 := Int.tmod_eq_emod_of_nonneg hj0
   have hsh : ((j : Int) % 16).toNat = j % 16 := by omega
   clear hT hTT hb hxx hcell hq
   go_wp2
   replace EE : MP w wr.drew R := EE.go (Below.refl _ _).drew
   have hc0 := HCE.out _ EE.fr
   refine wp_region_held_drew (S := fun W => W.cell? ⟨B, o + q, none⟩ = some (.int .i64 x)) (by kernel_rfl) hc0 (fun hHeld => ?_)
   obtain ⟨wD, hD⟩ : ∃ V, V = wr.drew := ⟨_, rfl⟩
   rw [← hD] at hHeld EE hc0 ⊢
   clear hD
   refine wpAnyH_take (i := 1) (oi := { dst := some 14, op := Op.move (Operand.tmp 0), type := 29, pos := "l05_scalar.go:61", after := #[], guard := none }) (v := .slice (some ⟨B, o, none⟩) n c) rfl (by kernel_rfl) (by kernel_rfl) (by kernel_rfl) (fun _ _ _ h => h) (.inl ⟨by rfl, fun _ _ => by rfl⟩) (by assumption) ?_
   simp only [aP]
   refine wpAnyH_take (i := 2) (oi := { dst := some 15, op := Op.move (Operand.tmp 4), type := 3, pos := "l05_scalar.go:61", after := #[], guard := none }) (v := .int .i64 (j : Int)) rfl (by kernel_rfl) (by kernel_rfl) (by kernel_rfl) (fun _ _ _ h => h) (.inl ⟨by rfl, fun _ _ => by rfl⟩) (by assumption) ?_
   simp only [aP]
   refine wpAnyH_take (i := 3) (oi := { dst := some 16, op := Op.binOp BinOp.quo 3 (Operand.tmp 15) (Operand.const (Value.int IntKind.i64 16)) 3, type := 3, pos := "l05_scalar.go:61", after := #[{ on := 2, ground := Ground.data }], guard := none }) (v := .int .i64 (q : Int)) rfl (by kernel_rfl) (by kernel_rfl) (by kernel_rfl) (fun _ _ _ h => h) (.inl ⟨by rfl, fun W hW => by simp [go_sem, *]⟩) (by assumption) ?_
   simp only [aP]
   refine wpAnyH_take (i := 4) (oi := { dst := some 17, op := Op.indexAddr 29 (Operand.tmp 14) (Operand.tmp 16), type := 0, pos := "l05_scalar.go:61", after := #[{ on := 1, ground := Ground.data }, { on := 3, ground := Ground.data }], guard := none }) (v := .pointer (some ⟨B, o + q, none⟩)) rfl (by kernel_rfl) (by kernel_rfl) (by kernel_rfl) (fun _ _ _ h => h) (.inl ⟨by rfl, fun W hW => by simp [go_sem, *]⟩) (by assumption) ?_
   simp only [aP]
   refine wpAnyH_take (i := 5) (oi := { dst := some 18, op := Op.load 3 (Operand.tmp 17), type := 3, pos := "l05_scalar.go:61", after := #[{ on := 4, ground := Ground.data }], guard := none }) (v := .int .i64 x) rfl (by kernel_rfl) (by kernel_rfl) (by kernel_rfl) (fun _ _ _ h => h) (.inl ⟨by rfl, fun W hW => by simp [go_sem, *]⟩) (by assumption) ?_
   simp only [aP]
   refine wpAnyH_take (i := 6) (oi := { dst := some 19, op := Op.move (Operand.tmp 4), type := 3, pos := "l05_scalar.go:61", after := #[], guard := none }) (v := .int .i64 (j : Int)) rfl (by kernel_rfl) (by kernel_rfl) (by kernel_rfl) (fun _ _ _ h => h) (.inl ⟨by rfl, fun _ _ => by rfl⟩) (by assumption) ?_
   simp only [aP]
   refine wpAnyH_take (i := 7) (oi := { dst := some 20, op := Op.binOp BinOp.rem 3 (Operand.tmp 19) (Operand.const (Value.int IntKind.i64 16)) 3, type := 3, pos := "l05_scalar.go:61", after := #[{ on := 6, ground := Ground.data }], guard := none }) (v := .int .i64 ((j : Int) % 16)) rfl (by kernel_rfl) (by kernel_rfl) (by kernel_rfl) (fun _ _ _ h => h) (.inl ⟨by rfl, fun W hW => by simp [go_sem, *]⟩) (by assumption) ?_
   simp only [aP]
   refine wpAnyH_take (i := 8) (oi := { dst := some 21, op := Op.binOp BinOp.shr 3 (Operand.tmp 18) (Operand.tmp 20) 3, type := 3, pos := "l05_scalar.go:61", after := #[{ on := 5, ground := Ground.data }, { on := 7, ground := Ground.data }], guard := none }) (v := .int .i64 y) rfl (by kernel_rfl) (by kernel_rfl) (by kernel_rfl) (fun _ _ _ h => h) (.inl ⟨by rfl, fun W hW => by simp [go_sem, *]⟩) (by assumption) ?_
   simp only [aP]
   refine wpAnyH_take (i := 9) (oi := { dst := some 22, op := Op.binOp BinOp.and 3 (Operand.tmp 21) (Operand.const (Value.int IntKind.i64 1)) 3, type := 3, pos := "l05_scalar.go:61", after := #[{ on := 8, ground := Ground.data }], guard := none }) (v := .int .i64 b) rfl (by kernel_rfl) (by kernel_rfl) (by kernel_rfl) (fun _ _ _ h => h) (.inl ⟨by rfl, fun W hW => by simp [go_sem, *]⟩) (by assumption) ?_
   simp only [aP]
   refine wpAnyH_ready (rs := [0]) (by kernel_rfl) (by simp) (AllReadyH.cons (o := { dst := some 13, op := Op.load 80 (Operand.tmp 3), type := 80, pos := "l05_scalar.go:61", after := #[], guard := none }) rfl (fun K hK => ?_) AllReadyH.nil)
   rw [if_pos (by rfl)]
   refine wp_load_mid _ _ rfl _ _ rfl (I64 R) _ (arr_range EE.pr) hu rfl hirl ?_
   simp only [aP]
   refine hK.out _ _ hc0 (fun hHeld => ?_)
   clear hK K
   refine wpAnyH_ready (rs := [10]) (by kernel_rfl) (by simp) (AllReadyH.cons (o := { dst := some 23, op := Op.call { callee := Callee.value (Operand.func 141), args := #[Operand.tmp 13, Operand.tmp 22], argTypes := #[80, 3] }, type := 80, pos := "l05_scalar.go:61", after := #[{ on := 0, ground := Ground.data }, { on := 9, ground := Ground.data }], guard := none }) rfl (fun K hK => ?_) AllReadyH.nil)
   go_simp
   refine (HTW.out _).mono ?_
   rintro e w4 ⟨rfl, hb4⟩
   replace EE := EE.go hb4
   clear hb4 hc0
   have hc0 := HCE.out _ EE.fr
   go_wp2_with fail
   refine hK.out _ _ hc0 (fun hHeld => ?_)
   clear hK K
   have hth : w4.there (w.heap.size + 1) 0 (I64 T).toArray.size := by simpa [hRl, hTl] using arr_there EE.pr
   have E5 := EE.put T (by simp [hRl, hTl])
   have hc5 := HCE.out _ E5.fr
   rw [HTT.out] at E5
   have HE5 : Hid _ := E5
   rw [← HTT.out] at HE5
   refine wpAnyH_ready (rs := [11]) (by kernel_rfl) (by simp) (AllReadyH.cons (o := { dst := none, op := Op.store 80 (Operand.tmp 3) (Operand.tmp 23), type := 0, pos := "l05_scalar.go:61", after := #[{ on := 10, ground := Ground.data }, { on := 10, ground := Ground.chain }, { on := 0, ground := Ground.phase }, { on := 1, ground := Ground.phase }, { on := 2, ground := Ground.phase }, { on := 3, ground := Ground.phase }, { on := 4, ground := Ground.phase }, { on := 5, ground := Ground.phase }, { on := 6, ground := Ground.phase }, { on := 7, ground := Ground.phase }, { on := 8, ground := Ground.phase }, { on := 9, ground := Ground.phase }, { on := 10, ground := Ground.phase }], guard := none }) rfl (fun K hK => ?_) AllReadyH.nil)
   rw [if_pos (by rfl)]
   refine wp_store_mid _ _ _ rfl _ _ (I64 T).toArray rfl rfl hth hit (all_oneCell_toArray hone) ?_
   simp only [Act.put]
   refine hK.out _ _ hc5 (fun hHeld => ?_)
   clear hK K
   refine wpAnyH_done (by kernel_rfl) ?_ _
   clear hHeld hc0 hc5 E5
   go_wp2
   go_roundw
   case rel => exact ⟨j, (j : Int) - 1, by omega, rfl, by go_num, HTT.out ▸ HE5.out⟩
   case measure => simp [intOf]
def rdOkO (bs : List Int) : Bool := decide (bs.length = 32) && decide (val (rdL bs) < qO)
def rdFO (bs : List Int) : List Int := if rdOkO bs = true then rdL bs else []
structure S1 (w W : World) : Prop where
 fr : Below w.heap.size w W
 pr : Arr W w.heap.size 41 [.slice none 0 0]
theorem S1.go {w A B : World} (h : S1 w A) (hb : Below A.heap.size A B) : S1 w B := ⟨h.fr.trans (hb.mono h.fr.size), h.pr.kept hb⟩
def wdL (bs : List Int) : List Int := (List.range 32).map fun i => bs.getD (2 * i) 0 + 256 * bs.getD (2 * i + 1) 0
theorem wdL_len (bs : List Int) : (wdL bs).length = 32 := by simp [wdL]
theorem wdL_get (bs : List Int) (k : Nat) (h : k < 32) : (wdL bs).getD k 0 = bs.getD (2 * k) 0 + 256 * bs.getD (2 * k + 1) 0 := by
  unfold wdL
  rw [List.getD, List.getElem?_map, List.getElem?_range h]
  rfl
theorem wdL_lm {bs : List Int} (h : ∀ x ∈ bs, 0 ≤ x ∧ x < 256) : Lm (wdL bs) := by
  intro x hx
  unfold wdL at hx
  obtain ⟨j, _, rfl⟩ := List.mem_map.1 hx
  have h1 := gD_u8 h (2 * j)
  have h2 := gD_u8 h (2 * j + 1)
  omega

set_option maxHeartbeats 2000000 in
theorem specWide16 (a : Option Addr) (c : Nat) (bs : List Int) (w : World) (hx : Bs w a 64 c bs) :
    Calls Tryz.prog 72 #[.slice a 64 c] w fun e w' => e = .returned (.agg (I64 (redO (val (wdL bs)))).toArray) ∧ Below w.heap.size w w' := by
  obtain ⟨i0, hi, hz0, hz1, hz2⟩ := info_parts Tryz.info3
  obtain ⟨_, hl, hc, hr, hx⟩ := hx
  rcases hx with hx | ⟨b, o, rfl, hbs, hcell⟩
  · omega
  have hRl := wdL_len bs
  have hRg := wdL_get bs
  have hRm := wdL_lm hr
  have hr' := gD_u8 hr
  obtain ⟨R, hR⟩ : ∃ R, R = wdL bs := ⟨_, rfl⟩
  rw [← hR] at hRl hRg hRm ⊢
  have HRG : Hid _ := hRg
  have HRR : Hid _ := hr'
  have HRM : Hid _ := hRm
  clear hR hRg hr hr' hRm
  obtain ⟨W, hW⟩ : ∃ W, W = w.alloc (.cells (I64 Z16).toArray 80) := ⟨_, rfl⟩
  have g0 : Arr W w.heap.size 80 (I64 Z16) := by rw [hW]; exact Arr.new w (I64 Z16) _
  have gB : Below w.heap.size w W := by rw [hW]; exact (Below.refl _ _).alloc (Nat.le_refl _) _
  have gs : w.heap.size + 1 ≤ W.heap.size := by rw [hW]; simp
  go_enter Tryz.func72, Tryz.ntmps72
  go_wp2
  go_loopw [3, 4] (fun v i wr => ∃ k : Nat, k ≤ 32 ∧ i = .int .i64 (2 * (k : Int)) ∧ wr.ownsRow (w.heap.size + 1) 3 1 v k (I64 (R.take k)) ∧ Arr wr w.heap.size 80 (I64 Z16) ∧ Below w.heap.size w wr ∧ w.heap.size + 1 ≤ wr.heap.size) (fun _ i _ => 64 - (intOf i).toNat)
  case atStart => exact ⟨0, by omega, rfl, by simpa using World.ownsRow_nil _ _ _ _, hW ▸ g0, hW ▸ gB, by simp⟩
  case round =>
    clear g0 gB gs hW
    obtain ⟨k, hk, rfl, hown, g0, gB, gs⟩ := hrel
    by_cases hlt : k < 32
    · obtain ⟨x, hx⟩ : ∃ x, x = bs.getD (2 * k) 0 := ⟨_, rfl⟩
      obtain ⟨y, hy⟩ : ∃ y, y = bs.getD (2 * k + 1) 0 := ⟨_, rfl⟩
      have hxb := HRR.out (2 * k)
      have hyb := HRR.out (2 * k + 1)
      rw [← hx] at hxb
      rw [← hy] at hyb
      obtain ⟨hx0, hx1⟩ := hxb
      obtain ⟨hy0, hy1⟩ := hyb
      have hck : wr.cell? ⟨b, o + 2 * k, none⟩ = some (.int .u8 x) := by rw [hx]; exact (gB.cell (p := ⟨b, o + 2 * k, none⟩) hbs).trans (hcell (2 * k) (by omega))
      have hcy : wr.cell? ⟨b, o + (2 * k + 1), none⟩ = some (.int .u8 y) := by rw [hy]; exact (gB.cell (p := ⟨b, o + (2 * k + 1), none⟩) hbs).trans (hcell (2 * k + 1) (by omega))
      have hts := take_app R k (by omega)
      rw [HRG.out k hlt, ← hx, ← hy] at hts
      have HN : Hid _ := hts
      clear hx hy hts hcell
      have hk16 : 2 * (k : Int) < 64 := by omega
      have s2 : (2 * (k : Int)).toNat = 2 * k := by omega
      have s4 : (0 : Int) ≤ 2 * (k : Int) := by omega
      have s5 : IntKind.i64.wrap (2 * (k : Int) + 1) = 2 * (k : Int) + 1 := by rw [IntKind.wrap_i64]; omega
      have s6 : (2 * (k : Int) + 1).toNat = 2 * k + 1 := by omega
      have s7 : 2 * (k : Int) + 1 < 64 := by omega
      have s8 : (0 : Int) ≤ 2 * (k : Int) + 1 := by omega
      have s9 : IntKind.i64.wrap x = x := by rw [IntKind.wrap_i64]; omega
      have s10 : IntKind.i64.wrap y = y := by rw [IntKind.wrap_i64]; omega
      have s11 : IntKind.i64.wrap (256 * y) = 256 * y := by rw [IntKind.wrap_i64]; omega
      have s12 : IntKind.i64.wrap (x + 256 * y) = x + 256 * y := by rw [IntKind.wrap_i64]; omega
      go_wp2
      go_region_held3 (fun W => W.cell? ⟨b, o + 2 * k, none⟩ = some (.int .u8 x) ∧ W.cell? ⟨b, o + (2 * k + 1), none⟩ = some (.int .u8 y)) (first | exact hS9 | go_keep)
        ((refine step_append_lies _ (by rfl) _ _ _ (by rfl) (w.heap.size + 1) 3 i0 _ 1 8 Tryz.underlying29 hi hz0 hz1 hz2 rfl (by omega) u3 k (I64 (R.take k)) (by rfl) ((hown.alloc _).drew)
            ⟨wr.heap.size, 0, none⟩ 1 1 (I64 [x + 256 * y]) (by rfl) (by rfl) (World.news_of_block (cs := #[.int .i64 (x + 256 * y)]) (t := 3) (fr := (0, 0)) (heap_alloc_new wr _)) (by simp [Value.oneCell'])
            (by omega) (by unfold maxLen; omega) (by omega) (by simp; omega) (wr.heap.size + 1) (by simp) ?_; intro gg cap w1 hown1 hgrow hat hltg; have hbA : Below (w.heap.size + 1) wr w1 := (((Below.refl _ _).alloc (by omega) _).drew).grown hgrow (by simp; omega) (fun j hj => (hown.lt j hj).1); have hS9 : w1.cell? ⟨b, o + 2 * k, none⟩ = some (.int .u8 x) ∧ w1.cell? ⟨b, o + (2 * k + 1), none⟩ = some (.int .u8 y) := ⟨(hbA.cell (p := ⟨b, o + 2 * k, none⟩) (by show b < w.heap.size + 1; omega)).trans hck, (hbA.cell (p := ⟨b, o + (2 * k + 1), none⟩) (by show b < w.heap.size + 1; omega)).trans hcy⟩))
      all_goals
        have g0' := g0.below hbA (by omega)
        have gB' := gB.trans (hbA.mono (by omega))
        have gs' := Nat.le_trans gs hbA.size
        have HR : Hid (w1.ownsRow (w.heap.size + 1) 3 1 (.slice (some ⟨gg, 0, none⟩) (k + 1) cap) (k + 1) (I64 (R.take (k + 1)))) := by
          unfold Hid
          rw [HN.out]
          simpa using hown1
        clear hown1 hgrow hown hbA hat hltg g0 gB gs hck hcy hS9
        go_wp2
        exact ⟨⟨k + 1, by omega, by go_num, HR.out, g0', gB', gs'⟩, by simp [intOf]; omega⟩
    · obtain rfl : k = 32 := by omega
      rw [List.take_of_length_le (by omega)] at hown
      obtain ⟨a', c', rfl, _, hIs⟩ := Is.own hown (fun x hx => by have := HRM.out x hx; omega)
      have HM' : Hid (Calls Tryz.prog 121 #[.slice a' 32 c'] wr fun e w' => e = .returned (.agg (I64 (redO (val R))).toArray) ∧ Below wr.heap.size wr w') := specMod a' 32 c' R wr hIs HRM.out (by omega)
      clear hown hIs hcell
      go_wp2_with fail
      refine HM'.out.mono ?_
      rintro e w5 ⟨rfl, hb5⟩
      have h25 := g0.kept hb5
      have hB5 := gB.trans (hb5.mono gB.size)
      have hLl := redO_len (val R)
      obtain ⟨L, hL⟩ : ∃ L, L = redO (val R) := ⟨_, rfl⟩
      rw [← hL] at hLl ⊢
      have hir : (Tryz.prog.info? 80).map (·.size) = some (I64 L).toArray.size := by simpa [hLl] using infoE
      have hr := h25.row (I64 L)
      have hbl := setRow_below hB5 w.heap.size (I64 L).toArray (Nat.le_refl _)
      have HLL : Hid _ := hL
      clear hL g0 gB hb5 HM'
      go_wp2_with (refine wpList_store_row rfl 80 _ _ rfl w.heap.size (I64 L).toArray rfl rfl 80 _ h25 hir (by simp [hLl]) (by simp [Value.oneCell']) ?_)
      exact bodyPost_ret (results_cell_row rfl _ _ w.heap.size 80 (I64 L).toArray (0, 0) _ rfl hr Tryz.underlying80 rfl hir) rfl ⟨by rw [HLL.out], hbl⟩

def wdOk (bs : List Int) : Bool := decide (bs.length = 64)
def wdF (bs : List Int) : List Int := if wdOk bs = true then redO (val (wdL bs)) else []

end Go.Proofs.YtihoaakbkffejaaGreatDoor
namespace Go.Proofs.YtihoaakbkffejaaGreatDoor
open Go.RowKit

abbrev U64 (xs : List Int) : List Value := xs.map (Value.int .u64)
theorem Arr.u64 {w : World} {g : Nat} {t : TypeId} {xs : List Int} (h : Arr w g t (U64 xs)) (j : Nat) (hj : j < xs.length) : w.cell? ⟨g, j, none⟩ = some (.int .u64 (xs.getD j 0)) := by
 rw [h.cell j]; simp [hj]
theorem Arr.setW {w : World} {g : Nat} {t : TypeId} {a0 a1 a2 a3 a4 a5 a6 a7 : Int} (h : Arr w g t (U64 [a0, a1, a2, a3, a4, a5, a6, a7])) (l0 l1 l2 l3 l4 l5 l6 l7 : Int) :
  Arr ((((((((w.setCell ⟨g, 0, none⟩ (.int .u64 l0)).setCell ⟨g, 1, none⟩ (.int .u64 l1)).setCell ⟨g, 2, none⟩ (.int .u64 l2)).setCell ⟨g, 3, none⟩ (.int .u64 l3)).setCell ⟨g, 4, none⟩ (.int .u64 l4)).setCell ⟨g, 5, none⟩ (.int .u64 l5)).setCell ⟨g, 6, none⟩ (.int .u64 l6)).setCell ⟨g, 7, none⟩ (.int .u64 l7))
   g t (U64 [l0, l1, l2, l3, l4, l5, l6, l7]) :=
 (((((((h.set 0 (.int .u64 l0)).set 1 (.int .u64 l1)).set 2 (.int .u64 l2)).set 3 (.int .u64 l3)).set 4 (.int .u64 l4)).set 5 (.int .u64 l5)).set 6 (.int .u64 l6)).set 7 (.int .u64 l7)

theorem wrap_u64 (n : Int) : IntKind.u64.wrap n = n % 18446744073709551616 := by simp [IntKind.wrap, IntKind.bits, IntKind.signed]
theorem wraps_u64 (n : Int) (h0 : 0 ≤ n) (h1 : n < 2 ^ 64) : IntKind.u64.wrap n = n := by rw [wrap_u64]; omega
theorem u64_or8 {x y : Int} (h0 : 0 ≤ x) (h1 : x < 18446744073709551616) (h2 : x % 256 = 0) (h3 : 0 ≤ y) (h4 : y < 256) : bits .or .u64 x y = x + y :=
 bits_join .u64 64 (by decide) wraps_u64 8 x y h0 (by simpa using h2) (by simpa using h1) h3 (by simpa using h4) (by omega)

def rotw (x : Int) (n : Nat) : Int := bits .or .u64 (x / 2 ^ n) (x * 2 ^ (64 - n) % 18446744073709551616)
def xrw (x y : Int) : Int := bits .xor .u64 x y
def ndw (x y : Int) : Int := bits .and .u64 x y
def tS0 (x : Int) : Int := xrw (xrw (rotw x 1) (rotw x 8)) (x / 2 ^ 7)
def tS1 (x : Int) : Int := xrw (xrw (rotw x 19) (rotw x 61)) (x / 2 ^ 6)
def cS0 (x : Int) : Int := xrw (xrw (rotw x 28) (rotw x 34)) (rotw x 39)
def cS1 (x : Int) : Int := xrw (xrw (rotw x 14) (rotw x 18)) (rotw x 41)
def chow (e f g : Int) : Int := xrw (ndw e f) (ndw (xrw IntKind.u64.max e) g)
def majw (a b c : Int) : Int := xrw (xrw (ndw a b) (ndw a c)) (ndw b c)

def wvw (xs : List Int) (j : Nat) : Nat → Int
 | 0 => 0
 | m + 1 => wvw xs j m * 256 + xs.getD (8 * j + m) 0
def nextWw (xs l : List Int) : Int :=
 if l.length < 16 then wvw xs l.length 8
 else (l.getD (l.length - 16) 0 + tS0 (l.getD (l.length - 15) 0) + l.getD (l.length - 7) 0 + tS1 (l.getD (l.length - 2) 0)) % 18446744073709551616
def schedW (xs : List Int) : Nat → List Int
 | 0 => []
 | k + 1 => schedW xs k ++ [nextWw xs (schedW xs k)]
theorem schedW_len (xs : List Int) (k : Nat) : (schedW xs k).length = k := by
 induction k with
 | zero => rfl
 | succ k ih => simp [schedW, ih]

def KW : List Int := [4794697086780616226, 8158064640168781261, 13096744586834688815, 16840607885511220156, 4131703408338449720, 6480981068601479193, 10538285296894168987, 12329834152419229976, 15566598209576043074, 1334009975649890238, 2608012711638119052, 6128411473006802146, 8268148722764581231, 9286055187155687089, 11230858885718282805, 13951009754708518548, 16472876342353939154, 17275323862435702243, 1135362057144423861, 2597628984639134821, 3308224258029322869, 5365058923640841347, 6679025012923562964, 8573033837759648693, 10970295158949994411, 12119686244451234320, 12683024718118986047, 13788192230050041572, 14330467153632333762, 15395433587784984357, 489312712824947311, 1452737877330783856, 2861767655752347644, 3322285676063803686, 5560940570517711597, 5996557281743188959, 7280758554555802590, 8532644243296465576, 9350256976987008742, 10552545826968843579, 11727347734174303076, 12113106623233404929, 14000437183269869457, 14369950271660146224, 15101387698204529176, 15463397548674623760, 17586052441742319658, 1182934255886127544, 1847814050463011016, 2177327727835720531, 2830643537854262169, 3796741975233480872, 4115178125766777443, 5681478168544905931, 6601373596472566643, 7507060721942968483, 8399075790359081724, 8693463985226723168, 9568029438360202098, 10144078919501101548, 10430055236837252648, 11840083180663258601, 13761210420658862357, 14299343276471374635, 14566680578165727644, 15097957966210449927, 16922976911328602910, 17689382322260857208, 500013540394364858, 748580250866718886, 1242879168328830382, 1977374033974150939, 2944078676154940804, 3659926193048069267, 4368137639120453308, 4836135668995329356, 5532061633213252278, 6448918945643986474, 6902733635092675308, 7801388544844847127]
theorem getD_memW {xs : List Int} {k : Nat} (hk : k < xs.length) : xs.getD k 0 ∈ xs := by
 rw [List.getD_eq_getElem?_getD, List.getElem?_eq_getElem hk]; exact List.getElem_mem _
theorem KW_len : KW.length = 80 := rfl
def H0W : List Int := [7640891576956012808, 13503953896175478587, 4354685564936845355, 11912009170470909681, 5840696475078001361, 11170449401992604703, 2270897969802886507, 6620516959819538809]
theorem H0W_word : ∀ x ∈ H0W, 0 ≤ x ∧ x < 18446744073709551616 := by decide
theorem H0W_len : H0W.length = 8 := rfl

def stpw8 (a b c d e f g h kw : Int) : List Int :=
 [(h + cS1 e + chow e f g + kw + (cS0 a + majw a b c)) % 18446744073709551616, a, b, c, (d + (h + cS1 e + chow e f g + kw)) % 18446744073709551616, e, f, g]
def stpw (st : List Int) (kw : Int) : List Int :=
 match st with
 | [a, b, c, d, e, f, g, h] => stpw8 a b c d e f g h kw
 | _ => st
def rndw (ws ks st : List Int) : Nat → List Int
 | 0 => st
 | k + 1 => stpw (rndw ws ks st k) (ws.getD k 0 + ks.getD k 0)
theorem stpw_len {st : List Int} (h : st.length = 8) (kw : Int) : (stpw st kw).length = 8 := by
 obtain ⟨a, b, c, d, e, f, g, i, rfl⟩ := list8 h
 rfl
theorem rndw_len (ws ks : List Int) {st : List Int} (h : st.length = 8) (k : Nat) : (rndw ws ks st k).length = 8 := by
 induction k with
 | zero => exact h
 | succ k ih => exact stpw_len ih _
def blkw (h bs : List Int) : List Int := List.zipWith (fun x y => (x + y) % 18446744073709551616) h (rndw (schedW bs 80) KW h 80)
theorem blkw_len {h : List Int} (hh : h.length = 8) (bs : List Int) : (blkw h bs).length = 8 := by
 simp [blkw, rndw_len _ _ hh, hh]
theorem blkw_word (h bs : List Int) : ∀ x ∈ blkw h bs, 0 ≤ x ∧ x < 18446744073709551616 := by
 intro x hx
 simp only [blkw, List.mem_iff_getElem?] at hx
 obtain ⟨i, hi⟩ := hx
 rw [List.getElem?_zipWith] at hi
 split at hi
 ·simp only [Option.some.injEq] at hi
  omega
 ·cases hi
theorem wvw_range {xs : List Int} (h : ∀ x ∈ xs, 0 ≤ x ∧ x < 256) (j m : Nat) : 0 ≤ wvw xs j m ∧ wvw xs j m < 256 ^ m := by
 induction m with
 | zero => simp [wvw]
 | succ m ih =>
  have hx : 0 ≤ xs.getD (8 * j + m) 0 ∧ xs.getD (8 * j + m) 0 < 256 := by
   by_cases hl : 8 * j + m < xs.length
   ·exact get_byte h hl
   ·rw [List.getD_eq_getElem?_getD, List.getElem?_eq_none (by omega)]
    simp
  obtain ⟨p, hp⟩ : ∃ p : Int, p = 256 ^ m := ⟨_, rfl⟩
  rw [Int.pow_succ, ← hp]
  rw [← hp] at ih
  simp only [wvw]
  omega
theorem schedW_snoc (xs : List Int) (k : Nat) : schedW xs (k + 1) = schedW xs k ++ [nextWw xs (schedW xs k)] := rfl

def hv2 (x : Int) : List Int := [x / 4294967296, x % 4294967296]
def halves (l : List Int) : List Int := l.flatMap hv2
set_option maxHeartbeats 400000 in
theorem specTurnW (x : Int) (n : Nat) (hn : 0 < n) (hn2 : n < 64) (m : Int) (hm : m = (n : Int)) (w : World) :
  Calls Tryz.prog 143 #[.int .u64 x, .int .i64 m] w fun e w' => e = .returned (.int .u64 (rotw x n)) ∧ ∃ q, w' = w.drewN q := by
 subst hm
 go_enter Tryz.func143, Tryz.ntmps143
 go_wp2
 go_quiet (fail)
 go_wp2
 go_ret
 exact ⟨rfl, _, rfl⟩
abbrev Z80 : List Int := [0, 0, 0, 0, 0, 0, 0, 0, 0, 0, 0, 0, 0, 0, 0, 0, 0, 0, 0, 0, 0, 0, 0, 0, 0, 0, 0, 0, 0, 0, 0, 0, 0, 0, 0, 0, 0, 0, 0, 0, 0, 0, 0, 0, 0, 0, 0, 0, 0, 0, 0, 0, 0, 0, 0, 0, 0, 0, 0, 0, 0, 0, 0, 0, 0, 0, 0, 0, 0, 0, 0, 0, 0, 0, 0, 0, 0, 0, 0, 0]

theorem zeroRun {P : Program} {t : TypeId} {z : Value} (h : (P.info? t).map (·.zero) = some (some z)) (w : World) : (zeroValue t).run P w = .ok z w := by
 cases hi : P.info? t with
 | none => rw [hi] at h; cases h
 | some i =>
  rw [hi] at h
  simp only [Option.map_some, Option.some.injEq] at h
  simp [zeroValue, typeInfo, hi, h]
theorem zero80 (w : World) : (zeroValue 160).run Tryz.prog w = .ok (.agg #[.int .u64 0, .int .u64 0, .int .u64 0, .int .u64 0, .int .u64 0, .int .u64 0, .int .u64 0, .int .u64 0, .int .u64 0, .int .u64 0, .int .u64 0, .int .u64 0, .int .u64 0, .int .u64 0, .int .u64 0, .int .u64 0, .int .u64 0, .int .u64 0, .int .u64 0, .int .u64 0, .int .u64 0, .int .u64 0, .int .u64 0, .int .u64 0, .int .u64 0, .int .u64 0, .int .u64 0, .int .u64 0, .int .u64 0, .int .u64 0, .int .u64 0, .int .u64 0, .int .u64 0, .int .u64 0, .int .u64 0, .int .u64 0, .int .u64 0, .int .u64 0, .int .u64 0, .int .u64 0, .int .u64 0, .int .u64 0, .int .u64 0, .int .u64 0, .int .u64 0, .int .u64 0, .int .u64 0, .int .u64 0, .int .u64 0, .int .u64 0, .int .u64 0, .int .u64 0, .int .u64 0, .int .u64 0, .int .u64 0, .int .u64 0, .int .u64 0, .int .u64 0, .int .u64 0, .int .u64 0, .int .u64 0, .int .u64 0, .int .u64 0, .int .u64 0, .int .u64 0, .int .u64 0, .int .u64 0, .int .u64 0, .int .u64 0, .int .u64 0, .int .u64 0, .int .u64 0, .int .u64 0, .int .u64 0, .int .u64 0, .int .u64 0, .int .u64 0, .int .u64 0, .int .u64 0, .int .u64 0]) w := zeroRun (by kernel_rfl) w

theorem wpList_buildTo {P : Program} {ops : Array Oper} {rest : List Oper} {o : Oper} {a : Act} {w : World} {Q : Exit → Act → World → Prop} (hg : o.guard = none) (t : TypeId) (parts : Array (Nat × Operand)) (ho : o.op = .build t parts) (cells : Array Value)
  (hc : P.built t (parts.map fun (i, x) => (i, a.eval x)).toList = some cells) (h : wpList P ops Q rest (a.put o.dst (.agg cells)) w) : wpList P ops Q (o :: rest) a w :=
 wpList_build hg t parts ho (by rw [hc]; rfl) (by rw [hc]; exact h)

set_option maxHeartbeats 1000000 in
theorem specRoundW (k : Nat) (hk : k < 80) (w : World) :
  Calls Tryz.prog 144 #[.int .i64 (k : Int)] w fun e w' => e = .returned (.int .u64 (KW.getD k 0)) ∧ Below w.heap.size w w' := by
 have hA := Arr.new w (U64 Z80) 160
 have hB : Below w.heap.size w (w.alloc (.cells (U64 Z80).toArray 160)) := (Below.refl _ _).alloc (Nat.le_refl _) _
 have hA2 := hA.row (U64 KW)
 have hB2 := setRow_below hB w.heap.size (U64 KW).toArray (Nat.le_refl _)
 have hck := hA2.u64 k (by rw [KW_len]; exact hk)
 obtain ⟨y, hy⟩ : ∃ y, y = KW.getD k 0 := ⟨_, rfl⟩
 rw [← hy] at hck
 have hck2 : ((w.alloc (.cells #[.int .u64 0, .int .u64 0, .int .u64 0, .int .u64 0, .int .u64 0, .int .u64 0, .int .u64 0, .int .u64 0, .int .u64 0, .int .u64 0, .int .u64 0, .int .u64 0, .int .u64 0, .int .u64 0, .int .u64 0, .int .u64 0, .int .u64 0, .int .u64 0, .int .u64 0, .int .u64 0, .int .u64 0, .int .u64 0, .int .u64 0, .int .u64 0, .int .u64 0, .int .u64 0, .int .u64 0, .int .u64 0, .int .u64 0, .int .u64 0, .int .u64 0, .int .u64 0, .int .u64 0, .int .u64 0, .int .u64 0, .int .u64 0, .int .u64 0, .int .u64 0, .int .u64 0, .int .u64 0, .int .u64 0, .int .u64 0, .int .u64 0, .int .u64 0, .int .u64 0, .int .u64 0, .int .u64 0, .int .u64 0, .int .u64 0, .int .u64 0, .int .u64 0, .int .u64 0, .int .u64 0, .int .u64 0, .int .u64 0, .int .u64 0, .int .u64 0, .int .u64 0, .int .u64 0, .int .u64 0, .int .u64 0, .int .u64 0, .int .u64 0, .int .u64 0, .int .u64 0, .int .u64 0, .int .u64 0, .int .u64 0, .int .u64 0, .int .u64 0, .int .u64 0, .int .u64 0, .int .u64 0, .int .u64 0, .int .u64 0, .int .u64 0, .int .u64 0, .int .u64 0, .int .u64 0, .int .u64 0] 160)).setRow w.heap.size (U64 KW).toArray).cell? ⟨w.heap.size, k, none⟩ = some (.int .u64 y) := hck
 have HY : Hid _ := hy
 have HB : Hid _ := hB2
 clear hy hA2 hB2 hB hck
 have hk80 : (k : Int) < 80 := by omega
 have hz80 := zero80
 go_enter Tryz.func144, Tryz.ntmps144
 go_wp2_with (first
  | (refine wpList_buildTo rfl 160 _ rfl (U64 KW).toArray (by kernel_rfl) ?_)
  | (refine wpList_store_row rfl 160 _ _ rfl w.heap.size (U64 KW).toArray rfl rfl 160 (U64 Z80).toArray hA (by kernel_rfl) (by kernel_rfl) (by kernel_rfl) ?_))
 go_ret
 refine ⟨?_, HB.out⟩
 show Ending.returned (.int .u64 y) = _
 rw [HY.out]
 rfl

set_option maxHeartbeats 1000000 in
theorem specFirstW (w : World) :
  Calls Tryz.prog 122 #[] w fun e w' => e = .returned (.agg (U64 H0W).toArray) ∧ Below w.heap.size w w' := by
 go_enter Tryz.func122, Tryz.ntmps122
 go_wp2
 exact bodyPost_ret (results_cell_row rfl _ _ w.heap.size 100 _ (0, 0) _ rfl (heap_alloc_new w _) Tryz.underlying100 rfl (by kernel_rfl)) rfl ⟨rfl, (Below.refl _ _).alloc (Nat.le_refl _) _⟩

end Go.Proofs.YtihoaakbkffejaaGreatDoor

/-
  What is proved here: the contract of the program's secretOf; where its variables hold what its text lays; the contract of the program's PubOf; where its variables hold what its text lays; the contract of the library's slices.Concat at three slices of at most 2^20 bytes; the contract of the program's multiplierOfSum at two and at three slices; where its variables hold what its text lays; the contracts of the program's ScAdd and ScMul: the sum and the product of two multipliers; where the program's variable holds the order.
-/
import Derived.Test.YtihoaakbkffejaaGreatDoorSVg
import Derived.Test.YtihoaakbkffejaaGreatDoorSCt
import Derived.Test.YtihoaakbkffejaaGreatDoorSQk
import Derived.Test.YtihoaakbkffejaaGreatDoorSKf
import Derived.Test.YtihoaakbkffejaaGreatDoorSQi
import Derived.Test.YtihoaakbkffejaaGreatDoorSQh
namespace Go.Proofs.YtihoaakbkffejaaGreatDoor
open Go.RowKit
set_option maxRecDepth 100000

theorem infoSecret : (Tryz.prog.info? 57).map (·.size) = some 2 := by kernel_rfl
def zb32 : Array Value := #[.int .u8 0, .int .u8 0, .int .u8 0, .int .u8 0, .int .u8 0, .int .u8 0, .int .u8 0, .int .u8 0, .int .u8 0, .int .u8 0, .int .u8 0, .int .u8 0, .int .u8 0, .int .u8 0, .int .u8 0, .int .u8 0, .int .u8 0, .int .u8 0, .int .u8 0, .int .u8 0, .int .u8 0, .int .u8 0, .int .u8 0, .int .u8 0, .int .u8 0, .int .u8 0, .int .u8 0, .int .u8 0, .int .u8 0, .int .u8 0, .int .u8 0, .int .u8 0]
theorem make32 (w : World) : (Instr.makeSlice 22 (.int .i64 32) (.int .i64 32)).run Tryz.prog w = .ok (.slice (some ⟨w.heap.size, 0, none⟩) 32 32) (w.alloc (.cells zb32 5)) := by kernel_rfl
theorem zb_bs (w : World) : Bs (w.alloc (.cells zb32 5)) (some ⟨w.heap.size, 0, none⟩) 32 32 (List.replicate 32 0) := by
 have ow : (w.alloc (.cells zb32 5)).ownsRow w.heap.size 5 1 (.slice (some ⟨w.heap.size, 0, none⟩) 32 32) 32 (U8 (List.replicate 32 0)) := World.ownsRow_lit (base := w.heap.size) (e := 5) (size := 1) w zb32 32 (Nat.le_refl _) (by unfold maxLen; omega) rfl
 exact bs_of_own ow (fun x hx => by have := List.eq_of_mem_replicate hx; omega)
set_option maxHeartbeats 4000000 in
theorem implSecret (a : Option Addr) (c : Nat) (bs : List Int) (w : World) (hx : Bs w a 32 c bs) (hG : VarsOk w) :
  Calls Tryz.prog 34 #[.slice a 32 c] w fun e w' => ∃ ac cc ab cb, e = .returned (.tuple #[.agg #[.slice ac 16 cc, .slice ab 32 cb], .bool true]) ∧ Is w' ac 16 cc (redO (val (sA bs))) ∧ Bs w' ab 32 cb ((sumOfW bs).drop 32) ∧ Below w.heap.size w w' := by
 have hn : bs.length = 32 := hx.2.1
 have HH : Hid (∀ Z, Below w.heap.size w Z → Calls Tryz.prog 18 #[.slice a 32 c] Z fun e w' => ∃ v, e = .returned v ∧ w'.ownsRow Z.heap.size 5 1 v 64 (U8 (sumOfW bs)) ∧ Below Z.heap.size Z w') := by
  unfold Hid; intro Z hZ; have h := implSha512 a 32 c bs Z (hx.below hZ) (hG.kept hZ).T (hG.kept hZ).F
  have e1 : s512 bs = sumOfW bs := by unfold s512; rw [if_pos (by omega)]
  rw [e1, sumOfW_len] at h; exact h
 have hs := sumOfW_len bs
 have hb := sumOfW_byte bs
 obtain ⟨S, hS⟩ : ∃ S, S = sumOfW bs := ⟨_, rfl⟩
 have hK : redO (val (sA bs)) = redO (val (clL (rdL (S.take 32)))) := by rw [hS]; rfl
 rw [hK, ← hS]
 rw [← hS] at HH hs hb
 clear hK hS
 have HSB : Hid _ := hb
 have ht : (S.take 32).length = 32 := by simp [hs]
 have HC : Hid (∀ a c Z, Bs Z a 32 c (S.take 32) → Calls Tryz.prog 13 #[.slice a 32 c] Z fun e w' => ∃ v, e = .returned (.tuple #[v, .bool true]) ∧ w'.ownsRow Z.heap.size 5 1 v 32 (U8 (clB (S.take 32))) ∧ Below Z.heap.size Z w') := by
  unfold Hid; intro a c Z h; have h2 := implClamp a 32 c _ Z h
  have e1 : cpOk (S.take 32) = true := by unfold cpOk; exact decide_eq_true ht
  have e2 : cpL (S.take 32) = clB (S.take 32) := by unfold cpL; rw [if_pos e1]
  rw [e1, e2, clB_len, ht] at h2; exact h2
 obtain ⟨C, hC⟩ : ∃ C, C = clB (S.take 32) := ⟨_, rfl⟩
 have hCb : ∀ x ∈ C, 0 ≤ x ∧ x < 256 := by rw [hC]; exact clB_byte (take_byte hb 32)
 have hCl : C.length = 32 := by rw [hC, clB_len, ht]
 have hCv : val (wdL (C ++ List.replicate 32 0)) = val (clL (rdL (S.take 32))) := by rw [wide_pad hCl, hC, rdL_clB ht (take_byte hb 32)]
 rw [← hC] at HC
 rw [← hCv]
 have HCB : Hid _ := hCb
 obtain ⟨K, hK⟩ : ∃ K, K = redO (val (wdL (C ++ List.replicate 32 0))) := ⟨_, rfl⟩
 have HW : Hid (∀ a c Z, Below w.heap.size w Z → Bs Z a 64 c (C ++ List.replicate 32 0) → Calls Tryz.prog 17 #[.slice a 64 c] Z fun e w' => ∃ ac cc, e = .returned (.tuple #[.agg #[.slice ac 16 cc], .bool true]) ∧ w'.ownsRow Z.heap.size 65 1 (.slice ac 16 cc) 16 (I64 K) ∧ Below Z.heap.size Z w') := by
  unfold Hid; intro a c Z hZ h; refine (implScWide a 64 c _ Z h (hG.kept hZ).O).mono ?_
  rintro e z ⟨v, rfl, ⟨ac, cc, rfl, oo⟩, hb⟩
  have e1 : wdOk (C ++ List.replicate 32 0) = true := by unfold wdOk; exact decide_eq_true (by simp [hCl])
  have e2 : wdF (C ++ List.replicate 32 0) = K := by unfold wdF; rw [if_pos e1, hK]
  have e3 : K.length = 16 := by rw [hK]; exact redO_len _
  rw [e2, e3] at oo ⊢; rw [e1]
  exact ⟨ac, cc, rfl, oo, hb⟩
 have HKI : Hid _ := sc_int (show scOk K = true by rw [hK]; exact redO_ok _)
 rw [← hK]
 clear hK hCv hC hCb hb hx
 have hmk := make32
 have huS : Tryz.prog.underlying 41 = some _ := Tryz.underlying41
 obtain ⟨W, hW⟩ : ∃ W, W = w.alloc (.cells #[.slice none 0 0, .slice none 0 0] 57) := ⟨_, rfl⟩
 have fr : Below w.heap.size w W := by rw [hW]; exact ((Below.refl _ _).alloc (Nat.le_refl _) _)
 have pr : Arr W w.heap.size 57 ([.slice none 0 0, .slice none 0 0]) := by
  rw [hW]
  have := Arr.new (w) ([.slice none 0 0, .slice none 0 0]) 57
  exact this
 clear hG
 go_enter Tryz.func34, Tryz.ntmps34
 go_upto_region 3 with fail
 rw [← hW]
 clear hW
 obtain ⟨y0, hy0⟩ : ∃ y, y = W := ⟨_, rfl⟩
 rw [← hy0] at fr pr ⊢
 clear hy0
 have hly0 := pr.lt
 go_wp2_with fail
 refine (HH.out _ fr).mono ?_
 rintro e y1 ⟨v, rfl, ho, hb1⟩
 replace fr := fr.trans (hb1.mono fr.size)
 replace pr := pr.kept hb1
 clear hb1
 obtain ⟨g, cap, rfl⟩ : ∃ g cap, v = .slice (some ⟨g, 0, none⟩) 64 cap := by
  rcases ho.2 with ⟨_, hv⟩ | ⟨g, cap, cu, hv, hg, _⟩
  ·omega
  ·exact ⟨g, cap, hv⟩
 have hB := bs_of_own ho HSB.out
 have hl1 : w.heap.size < y0.heap.size := hly0
 have iS := In.of ho
 have oS := ho
 clear ho
 have hcc : (32 : Int) ≤ (cap : Int) := by have := hB.2.2.1; omega
 have hcc2 : ¬ ((cap : Int) < 32) := by omega
 have hcne : ¬ cap = 32 := by have := hB.2.2.1; omega
 go_wp2_with fail
 refine (HC.out _ _ _ (hB.takeW (m := 32) (by omega))).mono ?_
 rintro e y2 ⟨v, rfl, ho, hb1⟩
 replace fr := fr.trans (hb1.mono fr.size)
 replace pr := pr.kept hb1
 replace hB := hB.below hb1
 replace oS := own_below oS hb1
 clear hb1
 obtain ⟨ak, ck, rfl, hck, hBk⟩ := Bs.own ho HCB.out
 clear ho
 go_upto_region 5 with fail
 obtain ⟨Z1, hZ1⟩ : ∃ Z, Z = y2.alloc (.cells zb32 5) := ⟨_, rfl⟩
 obtain ⟨Z2, hZ2⟩ : ∃ Z, Z = Z1.alloc (.cells #[.slice ak 32 ck, .slice (some ⟨y2.heap.size, 0, none⟩) 32 32] 22) := ⟨_, rfl⟩
 have b1 : Below y2.heap.size y2 Z1 := by rw [hZ1]; exact (Below.refl _ _).alloc (Nat.le_refl _) _
 have b2 : Below Z1.heap.size Z1 Z2 := by rw [hZ2]; exact (Below.refl _ _).alloc (Nat.le_refl _) _
 have hz : Bs Z1 (some ⟨y2.heap.size, 0, none⟩) 32 32 (List.replicate 32 0) := by rw [hZ1]; exact zb_bs y2
 have hq : Arr Z2 Z1.heap.size 22 [.slice ak 32 ck, .slice (some ⟨y2.heap.size, 0, none⟩) 32 32] := by rw [hZ2]; exact Arr.new _ _ _
 replace hz := hz.below b2
 replace fr := (fr.trans (b1.mono fr.size)).trans (b2.mono (fr.trans (b1.mono fr.size)).size)
 replace pr := (pr.kept b1).kept b2
 replace hB := (hB.below b1).below b2
 replace oS := own_below (own_below oS b1) b2
 replace hBk := (hBk.below b1).below b2
 have hlz : Z1.heap.size = y2.heap.size + 1 := by rw [hZ1]; simp
 clear b1 b2
 go_wp2_with fail
 rw [← hZ1, ← hZ2]
 rw [hlz] at hq
 clear hZ1 hZ2 hlz
 refine (concat2 (y2.heap.size + 1) ak (some ⟨y2.heap.size, 0, none⟩) 32 ck 32 32 C (List.replicate 32 0) _ hq.lt (hq.cell 0) (hq.cell 1) hBk hz (by omega) (by omega)).mono ?_
 rintro e y3 ⟨v, rfl, ho, hb1⟩
 replace fr := fr.trans (hb1.mono fr.size)
 replace pr := pr.kept hb1
 replace hB := hB.below hb1
 replace oS := own_below oS hb1
 clear hb1 hz hq hBk
 obtain ⟨aw, cw, rfl, hcw, hBw⟩ := Bs.own ho (app_byte HCB.out (fun x hx => by have := List.eq_of_mem_replicate hx; omega))
 clear ho
 go_wp2_with fail
 refine (HW.out _ _ _ fr hBw).mono ?_
 rintro e y4 ⟨ac, cc, rfl, oI, hb1⟩
 have iI := In.of oI
 have hl3 := pr.lt
 replace fr := fr.trans (hb1.mono fr.size)
 replace pr := pr.kept hb1
 replace hB := hB.below hb1
 replace oS := own_below oS hb1
 clear hb1 hBw
 have hl := pr.lt
 go_upto_region 6 with fail
 obtain ⟨Z6, hZ6⟩ : ∃ Z, Z = y4.alloc (.cells #[.slice ac 16 cc] 41) := ⟨_, rfl⟩
 have b6 : Below y4.heap.size y4 Z6 := by rw [hZ6]; exact (Below.refl _ _).alloc (Nat.le_refl _) _
 have As : Arr Z6 y4.heap.size 41 [.slice ac 16 cc] := by rw [hZ6]; exact Arr.new _ _ _
 rw [← hZ6]
 replace fr := fr.trans (b6.mono fr.size)
 replace pr := pr.kept b6
 replace oS := own_below oS b6
 replace oI := own_below oI b6
 have hl6 : w.heap.size < y4.heap.size := hl
 obtain ⟨Xs, hXs⟩ : ∃ X, X = y4.heap.size := ⟨_, rfl⟩
 rw [← hXs] at As hl6 ⊢
 clear hZ6 b6 hB hXs hl
 try simp only [Act.put]
 refine tame [kc 29 (.agg ([.slice ac 16 cc]).toArray), kc 30 (.slice (some ⟨g, 0, none⟩) 64 cap), kc 31 (.slice (some ⟨g, 32, none⟩) 32 (cap - 32)), kc 32 (.agg #[.slice ac 16 cc, .slice (some ⟨g, 32, none⟩) 32 (cap - 32)])] 4 (by kernel_rfl) (by kernel_rfl) (by kernel_rfl) (by repeat' first | exact trivial | apply kc_keeps | apply ka_keeps | constructor) 2 (by kernel_rfl) (fun vv1 ll1 hh1 yW b => ?_) (fun vv1 ll1 hh1 yW b F ivh aph => ?_)
 ·skip
  replace fr := fr.trans (b.mono fr.size)
  replace pr := pr.kept b
  replace As := As.kept b
  replace oS := own_below oS b
  replace oI := own_below oI b
  exact ⟨ts (arr_range As) infoSc huS (by kernel_rfl),
   tp (by kernel_rfl),
   tp (by simp only [fillK, putT, List.setIfInBounds_toArray, List.set_cons_zero, List.set_cons_succ]; unfold execOp; go_simp),
   tp (by kernel_rfl), trivial⟩
 obtain ⟨y1, hy⟩ : ∃ z, z = yW := ⟨_, rfl⟩
 rw [← hy] at b F ivh ⊢
 clear hy
 have oq : w.heap.size < Z6.heap.size ∧ Xs < Z6.heap.size ∧ w.heap.size ≤ Z6.heap.size := ⟨pr.lt, As.lt, fr.size⟩
 replace fr := fr.trans (b.mono fr.size)
 replace pr := pr.kept b
 replace As := As.kept b
 replace oS := own_below oS b
 replace oI := own_below oI b
 clear F
 refine st_row (i := 4) (cells := [.slice ac 16 cc, .slice (some ⟨g, 32, none⟩) 32 (cap - 32)]) (by kernel_rfl) rfl rfl rfl rfl pr (by kernel_rfl) (by kernel_rfl) (by simp) infoSecret (by simp [Value.oneCell']) ?_
 replace fr := bel_sc fr w.heap.size ([.slice ac 16 cc, .slice (some ⟨g, 32, none⟩) 32 (cap - 32)]) (by omega)
 replace pr := pr.sc0 ([.slice ac 16 cc, .slice (some ⟨g, 32, none⟩) 32 (cap - 32)]) (by simp)
 replace As := As.sc w.heap.size ([.slice ac 16 cc, .slice (some ⟨g, 32, none⟩) 32 (cap - 32)]) (by omega)
 replace oS : (y1.setCells w.heap.size 0 ([.slice ac 16 cc, .slice (some ⟨g, 32, none⟩) 32 (cap - 32)])).ownsRow y0.heap.size 5 1 (.slice (some ⟨g, 0, none⟩) 64 cap) 64 (U8 S) := own_setCells oS iS (.inl (by omega)) _
 replace oI : (y1.setCells w.heap.size 0 ([.slice ac 16 cc, .slice (some ⟨g, 32, none⟩) 32 (cap - 32)])).ownsRow y3.heap.size 65 1 (.slice ac 16 cc) 16 (I64 K) := own_setCells oI iI (.inl (by omega)) _
 obtain ⟨V2, hVe⟩ : ∃ V, V = y1.setCells w.heap.size 0 ([.slice ac 16 cc, .slice (some ⟨g, 32, none⟩) 32 (cap - 32)]) := ⟨_, rfl⟩
 rw [← hVe] at fr pr As oS oI ⊢
 clear hVe
 refine st_setd (i := 5) (d := 3) (v := Value.bool true) (by kernel_rfl) rfl rfl rfl (by kernel_rfl) ?_
 refine wpAny_done (by kernel_rfl) ?_ _
 simp only [fillK, putT, List.setIfInBounds_toArray, List.set_cons_zero, List.set_cons_succ]
 clear ivh aph b oq
 go_wp2
 exact bodyPost_ret (results_row_tmp (v := .bool true) (cs := [.slice ac 16 cc, .slice (some ⟨g, 32, none⟩) 32 (cap - 32)]) rfl rfl rfl pr Tryz.underlying57 rfl infoSecret) rfl ⟨ac, cc, _, _, rfl, is_of_own oI HKI.out, (bs_of_own oS HSB.out).dropW (m := 32) (by omega), fr⟩

end Go.Proofs.YtihoaakbkffejaaGreatDoor
namespace Go.Proofs.YtihoaakbkffejaaGreatDoor
open Go.RowKit
set_option maxRecDepth 100000

set_option maxHeartbeats 2000000 in
theorem implSecretNo (a : Option Addr) (n c : Nat) (w : World) (hn : n ≠ 32) :
  Calls Tryz.prog 34 #[.slice a n c] w fun e w' => e = .returned (.tuple #[.agg #[.slice none 0 0, .slice none 0 0], .bool false]) ∧ Below w.heap.size w w' := by
 have hne : ((n : Int) != 32) = true := by simp; omega
 have hbs : ∀ w, (Instr.build 57 #[]).run Tryz.prog w = .ok (.agg #[.slice none 0 0, .slice none 0 0]) w := fun w => by kernel_rfl
 have pr : Arr (w.alloc (.cells #[.slice none 0 0, .slice none 0 0] 57)) w.heap.size 57 [.slice none 0 0, .slice none 0 0] := Arr.new _ _ _
 have B : Below w.heap.size w (w.alloc (.cells #[.slice none 0 0, .slice none 0 0] 57)) := (Below.refl _ _).alloc (Nat.le_refl _) _
 go_enter Tryz.func34, Tryz.ntmps34
 go_wp2
 exact bodyPost_ret (results_row_tmp (v := .bool false) (cs := [.slice none 0 0, .slice none 0 0]) rfl rfl rfl pr Tryz.underlying57 rfl infoSecret) rfl ⟨rfl, B⟩

end Go.Proofs.YtihoaakbkffejaaGreatDoor
namespace Go.Proofs.YtihoaakbkffejaaGreatDoor
open Go.RowKit

set_option maxHeartbeats 2000000 in
theorem concat3 (g : Nat) (a a' a'' : Option Addr) (n c n' c' n'' c'' : Nat) (xs ys zs : List Int) (w : World) (hg : g < w.heap.size)
    (h0 : w.cell? ⟨g, 0, none⟩ = some (.slice a n c)) (h1 : w.cell? ⟨g, 1, none⟩ = some (.slice a' n' c')) (h2 : w.cell? ⟨g, 2, none⟩ = some (.slice a'' n'' c'')) (h : Bs w a n c xs) (h' : Bs w a' n' c' ys) (h'' : Bs w a'' n'' c'' zs) (hn : n ≤ 1048576) (hn' : n' ≤ 1048576) (hn'' : n'' ≤ 1048576) :
    Calls Tryz.prog 39 #[.slice (some ⟨g, 0, none⟩) 3 3] w fun e w' => ∃ v, e = .returned v ∧ w'.ownsRow w.heap.size 5 1 v (n + n' + n'') (U8 (xs ++ ys ++ zs)) ∧ Below w.heap.size w w' := by
  go_enter Tryz.func39, Tryz.ntmps39
  go_wp2
  refine wp_loop_rounds 4 ?_
  rw [rounds_succ]
  go_wp2
  rw [rounds_succ]
  go_wp2
  rw [rounds_succ]
  go_wp2
  rw [rounds_succ]
  go_wp2_with fail
  have eN : ((n : Int) + (n' : Int) + (n'' : Int)) = ((n + n' + n'' : Nat) : Int) := by omega
  rw [eN]
  refine (growNil (n + n' + n'') w (by omega)).mono ?_
  rintro e w1 ⟨v1, rfl, hown1, b1⟩
  have q0 : w1.cell? ⟨g, 0, none⟩ = some (.slice a n c) := (b1.cell (p := ⟨g, 0, none⟩) hg).trans h0
  have q1 : w1.cell? ⟨g, 1, none⟩ = some (.slice a' n' c') := (b1.cell (p := ⟨g, 1, none⟩) hg).trans h1
  have q2 : w1.cell? ⟨g, 2, none⟩ = some (.slice a'' n'' c'') := (b1.cell (p := ⟨g, 2, none⟩) hg).trans h2
  have s1 := b1.size
  have hx1 := h.below b1
  clear h0 h1 h2 eN
  go_wp2
  refine wp_loop_rounds 4 ?_
  rw [rounds_succ]
  go_wp2_with (at_builtin; refine wpl_append_bs rfl _ _ rfl w.heap.size _ 0 [] rfl a n c xs rfl hown1 hx1 ?_ ?_ ?_)
  · omega
  · omega
  intro v2 w2 hown2 hgr2 _
  have b2 : Below w.heap.size w w2 := below_app0 b1 s1 hown1 hgr2
  have q1' : w2.cell? ⟨g, 1, none⟩ = some (.slice a' n' c') := (b2.cell (p := ⟨g, 1, none⟩) hg).trans ((b1.cell (p := ⟨g, 1, none⟩) hg).symm.trans q1)
  have q2' : w2.cell? ⟨g, 2, none⟩ = some (.slice a'' n'' c'') := (b2.cell (p := ⟨g, 2, none⟩) hg).trans ((b1.cell (p := ⟨g, 2, none⟩) hg).symm.trans q2)
  have s2 := b2.size
  have hy2 := h'.below b2
  clear hgr2 hown1 b1 q0 q1 q2 s1 hx1 h h'
  go_wp2
  rw [rounds_succ]
  go_wp2_with (at_builtin; refine wpl_append_bs rfl _ _ rfl w.heap.size _ n xs rfl a' n' c' ys rfl hown2 hy2 ?_ ?_ ?_)
  · omega
  · omega
  intro v3 w3 hown3 hgr3 _
  have b3 : Below w.heap.size w w3 := below_app0 b2 s2 hown2 hgr3
  have q3 : w3.cell? ⟨g, 2, none⟩ = some (.slice a'' n'' c'') := (b3.cell (p := ⟨g, 2, none⟩) hg).trans ((b2.cell (p := ⟨g, 2, none⟩) hg).symm.trans q2')
  have s3 := b3.size
  have hz3 := h''.below b3
  replace hown3 : w3.ownsRow w.heap.size 5 1 v3 (n + n') (U8 (xs ++ ys)) := by simpa [U8] using hown3
  clear hgr3 hown2 b2 q1' q2' s2 hy2
  go_wp2
  rw [rounds_succ]
  go_wp2_with (at_builtin; refine wpl_append_bs rfl _ _ rfl w.heap.size _ (n + n') (xs ++ ys) rfl a'' n'' c'' zs rfl hown3 hz3 ?_ ?_ ?_)
  · omega
  · omega
  intro v4 w4 hown4 hgr4 _
  have b4 : Below w.heap.size w w4 := below_app0 b3 s3 hown3 hgr4
  clear hgr4 hown3 b3 q3 s3 hz3
  go_wp2
  rw [rounds_succ]
  go_wp2
  go_ret
  exact ⟨v4, rfl, by simpa [U8] using hown4, b4⟩
end Go.Proofs.YtihoaakbkffejaaGreatDoor
namespace Go.Proofs.YtihoaakbkffejaaGreatDoor
open Go.RowKit
set_option maxRecDepth 100000

set_option maxHeartbeats 4000000 in
theorem msum_walk (g k : Nat) (T : List Int) (N : Nat) (w : World) (hl : T.length = N) (hb : ∀ x ∈ T, 0 ≤ x ∧ x < 256) (hn : N ≤ 20000) (hG : VarsOk w)
  (HC : Hid (∀ Z, Below w.heap.size w Z → Calls Tryz.prog 39 #[.slice (some ⟨g, 0, none⟩) k k] Z fun e w' => ∃ v, e = .returned v ∧ w'.ownsRow Z.heap.size 5 1 v N (U8 T) ∧ Below Z.heap.size Z w')) :
  Calls Tryz.prog 35 #[.slice (some ⟨g, 0, none⟩) k k] w fun e w' => ∃ a' c', e = .returned (.agg #[.slice a' 16 c']) ∧ w'.ownsRow w.heap.size 65 1 (.slice a' 16 c') 16 (I64 (mS T)) ∧ Below w.heap.size w w' := by
 have HH : Hid (∀ a c Z, Bs Z a N c T → Below w.heap.size w Z → Calls Tryz.prog 18 #[.slice a N c] Z fun e w' => ∃ a' c', e = .returned (.slice a' 64 c') ∧ Bs w' a' 64 c' (sumOfW T) ∧ Below Z.heap.size Z w') := by
  unfold Hid; intro a c Z h hZ
  refine (implSha512 a N c T Z h (hG.kept hZ).T (hG.kept hZ).F).mono ?_
  rintro e z ⟨v, rfl, ho, hb⟩
  have e1 : s512 T = sumOfW T := by unfold s512; rw [if_pos (by omega)]
  rw [e1, sumOfW_len] at ho
  obtain ⟨a', c', rfl, _, hB⟩ := Bs.own ho (sumOfW_byte _)
  exact ⟨a', c', rfl, hB, hb⟩
 have HW : Hid (∀ a c Z, Bs Z a 64 c (sumOfW T) → Below w.heap.size w Z → Calls Tryz.prog 17 #[.slice a 64 c] Z fun e w' => ∃ a' c', e = .returned (.tuple #[.agg #[.slice a' 16 c'], .bool true]) ∧ w'.ownsRow Z.heap.size 65 1 (.slice a' 16 c') 16 (I64 (mS T)) ∧ Below Z.heap.size Z w') := by
  unfold Hid; intro a c Z h hZ
  refine (implScWide a 64 c _ Z h (hG.kept hZ).O).mono ?_
  rintro e z ⟨v, rfl, ⟨a', c', rfl, oo⟩, hb⟩
  have e1 : wdOk (sumOfW T) = true := by unfold wdOk; exact decide_eq_true (sumOfW_len _)
  have e2 : wdF (sumOfW T) = mS T := by unfold wdF; rw [if_pos e1]; rfl
  have e3 : (mS T).length = 16 := redO_len _
  rw [e2, e3] at oo ⊢
  rw [e1]
  exact ⟨a', c', rfl, oo, hb⟩
 obtain ⟨M, hM⟩ : ∃ M, M = mS T := ⟨_, rfl⟩
 rw [← hM] at HW ⊢
 have HB : Hid _ := hb
 obtain ⟨W, hW⟩ : ∃ W, W = w.alloc (.cells #[.slice none 0 0] 41) := ⟨_, rfl⟩
 have pr : Arr W w.heap.size 41 [.slice none 0 0] := by rw [hW]; exact Arr.new _ _ _
 have fr : Below w.heap.size w W := by rw [hW]; exact (Below.refl _ _).alloc (Nat.le_refl _) _
 clear hM hG hb hl
 go_enter Tryz.func35, Tryz.ntmps35
 go_upto_region 1 with fail
 rw [← hW]
 clear hW
 go_wp2_with fail
 refine (HC.out _ fr).mono ?_
 rintro e y1 ⟨v, rfl, ho, hb1⟩
 obtain ⟨a1, c1, rfl, _, hB⟩ := Bs.own ho HB.out
 replace fr := fr.trans (hb1.mono fr.size)
 replace pr := pr.kept hb1
 clear hb1 ho
 go_wp2_with fail
 refine (HH.out _ _ _ hB fr).mono ?_
 rintro e y2 ⟨a2, c2, rfl, hB2, hb1⟩
 replace fr := fr.trans (hb1.mono fr.size)
 replace pr := pr.kept hb1
 clear hb1 hB
 have hl := pr.lt
 go_wp2_with fail
 refine (HW.out _ _ _ hB2 fr).mono ?_
 rintro e y3 ⟨a3, c3, rfl, oo, hb1⟩
 replace fr := fr.trans (hb1.mono fr.size)
 replace pr := pr.kept hb1
 have io := In.of oo
 clear hb1 hB2
 go_upto_region 2 with fail
 obtain ⟨Z, hZ⟩ : ∃ Z, Z = y3.alloc (.cells #[.slice a3 16 c3] 41) := ⟨_, rfl⟩
 have b6 : Below y3.heap.size y3 Z := by rw [hZ]; exact (Below.refl _ _).alloc (Nat.le_refl _) _
 have As : Arr Z y3.heap.size 41 [.slice a3 16 c3] := by rw [hZ]; exact Arr.new _ _ _
 rw [← hZ]
 clear hZ
 replace fr := fr.trans (b6.mono fr.size)
 replace pr := pr.kept b6
 replace oo := own_below oo b6
 have c0 : Z.cell? ⟨y3.heap.size, 0, none⟩ = some (.slice a3 16 c3) := As.cell 0
 have d0 : Z.cell? ⟨w.heap.size, 0, none⟩ = some (.slice none 0 0) := pr.cell 0
 have hf := pr.frozen 0
 have pr2 := pr.set 0 (.slice a3 16 c3)
 have fr2 := fr.setCell (p := ⟨w.heap.size, 0, none⟩) (Nat.le_refl _) (.slice a3 16 c3)
 have oo2 := own_other' oo ⟨w.heap.size, 0, none⟩ (.slice a3 16 c3) (by exact hl)
 clear b6 As
 go_wp2
 exact bodyPost_ret (results_cell_row rfl _ _ w.heap.size 41 #[.slice a3 16 c3] (0, 0) _ rfl pr2 Tryz.underlying41 rfl infoSc) rfl ⟨a3, c3, rfl, own_base oo2 (Nat.le_of_lt hl), fr2⟩

set_option maxHeartbeats 4000000 in
theorem implMSum2 (g : Nat) (a : Option Addr) (n1 c1 : Nat) (xs : List Int) (b : Option Addr) (n2 c2 : Nat) (ys : List Int) (w : World) (hg : g < w.heap.size) (q0 : w.cell? ⟨g, 0, none⟩ = some (.slice a n1 c1)) (q1 : w.cell? ⟨g, 1, none⟩ = some (.slice b n2 c2)) (h0 : Bs w a n1 c1 xs) (h1 : Bs w b n2 c2 ys) (hn : n1 + n2 ≤ 20000) (hG : VarsOk w) :
  Calls Tryz.prog 35 #[.slice (some ⟨g, 0, none⟩) 2 2] w fun e w' => ∃ a' c', e = .returned (.agg #[.slice a' 16 c']) ∧ w'.ownsRow w.heap.size 65 1 (.slice a' 16 c') 16 (I64 (mS (xs ++ ys))) ∧ Below w.heap.size w w' := by
 have HC : Hid (∀ Z, Below w.heap.size w Z → Calls Tryz.prog 39 #[.slice (some ⟨g, 0, none⟩) 2 2] Z fun e w' => ∃ v, e = .returned v ∧ w'.ownsRow Z.heap.size 5 1 v (n1 + n2) (U8 (xs ++ ys)) ∧ Below Z.heap.size Z w') := by
  unfold Hid; intro Z hZ; exact concat2 g a b n1 c1 n2 c2 xs ys Z (Nat.lt_of_lt_of_le hg hZ.size) ((hZ.cell (p := ⟨g, 0, none⟩) hg).trans q0) ((hZ.cell (p := ⟨g, 1, none⟩) hg).trans q1) (h0.below hZ) (h1.below hZ) (by omega) (by omega)
 have hb : ∀ x ∈ xs ++ ys, 0 ≤ x ∧ x < 256 := (app_byte h0.2.2.2.1 h1.2.2.2.1)
 have hl : (xs ++ ys).length = n1 + n2 := by simp only [List.length_append, h0.2.1, h1.2.1]
 obtain ⟨T, hT⟩ : ∃ T, T = xs ++ ys := ⟨_, rfl⟩
 obtain ⟨N, hN⟩ : ∃ N, N = n1 + n2 := ⟨_, rfl⟩
 rw [← hT, ← hN] at HC
 rw [← hT] at hb ⊢
 rw [← hT, ← hN] at hl
 rw [← hN] at hn
 exact msum_walk g 2 T N w hl hb hn hG HC

set_option maxHeartbeats 4000000 in
theorem implMSum3 (g : Nat) (a : Option Addr) (n1 c1 : Nat) (xs : List Int) (b : Option Addr) (n2 c2 : Nat) (ys : List Int) (d : Option Addr) (n3 c3 : Nat) (zs : List Int) (w : World) (hg : g < w.heap.size) (q0 : w.cell? ⟨g, 0, none⟩ = some (.slice a n1 c1)) (q1 : w.cell? ⟨g, 1, none⟩ = some (.slice b n2 c2)) (q2 : w.cell? ⟨g, 2, none⟩ = some (.slice d n3 c3)) (h0 : Bs w a n1 c1 xs) (h1 : Bs w b n2 c2 ys) (h2 : Bs w d n3 c3 zs) (hn : n1 + n2 + n3 ≤ 20000) (hG : VarsOk w) :
  Calls Tryz.prog 35 #[.slice (some ⟨g, 0, none⟩) 3 3] w fun e w' => ∃ a' c', e = .returned (.agg #[.slice a' 16 c']) ∧ w'.ownsRow w.heap.size 65 1 (.slice a' 16 c') 16 (I64 (mS (xs ++ ys ++ zs))) ∧ Below w.heap.size w w' := by
 have HC : Hid (∀ Z, Below w.heap.size w Z → Calls Tryz.prog 39 #[.slice (some ⟨g, 0, none⟩) 3 3] Z fun e w' => ∃ v, e = .returned v ∧ w'.ownsRow Z.heap.size 5 1 v (n1 + n2 + n3) (U8 (xs ++ ys ++ zs)) ∧ Below Z.heap.size Z w') := by
  unfold Hid; intro Z hZ; exact concat3 g a b d n1 c1 n2 c2 n3 c3 xs ys zs Z (Nat.lt_of_lt_of_le hg hZ.size) ((hZ.cell (p := ⟨g, 0, none⟩) hg).trans q0) ((hZ.cell (p := ⟨g, 1, none⟩) hg).trans q1) ((hZ.cell (p := ⟨g, 2, none⟩) hg).trans q2) (h0.below hZ) (h1.below hZ) (h2.below hZ) (by omega) (by omega) (by omega)
 have hb : ∀ x ∈ xs ++ ys ++ zs, 0 ≤ x ∧ x < 256 := (app_byte (app_byte h0.2.2.2.1 h1.2.2.2.1) h2.2.2.2.1)
 have hl : (xs ++ ys ++ zs).length = n1 + n2 + n3 := by simp only [List.length_append, h0.2.1, h1.2.1, h2.2.1]
 obtain ⟨T, hT⟩ : ∃ T, T = xs ++ ys ++ zs := ⟨_, rfl⟩
 obtain ⟨N, hN⟩ : ∃ N, N = n1 + n2 + n3 := ⟨_, rfl⟩
 rw [← hT, ← hN] at HC
 rw [← hT] at hb ⊢
 rw [← hT, ← hN] at hl
 rw [← hN] at hn
 exact msum_walk g 3 T N w hl hb hn hG HC
end Go.Proofs.YtihoaakbkffejaaGreatDoor
namespace Go.Proofs.YtihoaakbkffejaaGreatDoor
open Go.RowKit
set_option maxRecDepth 100000

set_option maxHeartbeats 2000000 in
theorem implScMul (a : Option Addr) (n c : Nat) (xs : List Int) (b : Option Addr) (m d : Nat) (ys : List Int) (w : World) (hx : Is w a n c xs) (hy : Is w b m d ys) (hV : Vr w 6 (I64 OL)) :
    Calls Tryz.prog 37 #[.agg #[.slice a n c], .agg #[.slice b m d]] w fun e w' => ∃ v, e = .returned (.tuple #[v, .bool (scOk xs && scOk ys)]) ∧ FeT 65 w w' v (sc2 (fun x y => x * y) xs ys) ∧ Below w.heap.size w w' := by
  obtain ⟨W, hW⟩ : ∃ W, W = ((w.alloc (.cells #[.slice a n c] 41)).alloc (.cells #[.slice b m d] 41)).alloc (.cells #[.slice none 0 0] 41) := ⟨_, rfl⟩
  have EE : S3r w W (.slice a n c) (.slice b m d) := by rw [hW]; exact S3r.new _ _ hV
  have HO := implMus a n c xs b m d ys W (hx.below EE.fr) (hy.below EE.fr) EE.vr
  have hSl := scL_len xs
  have hTl := scL_len ys
  obtain ⟨o, ho⟩ : ∃ o, o = (scOk xs && scOk ys) := ⟨_, rfl⟩
  obtain ⟨Q, hQ⟩ : ∃ Q, Q = sc2 (fun x y => x * y) xs ys := ⟨_, rfl⟩
  obtain ⟨R, hR⟩ : ∃ R, R = redO (val xs * val ys) := ⟨_, rfl⟩
  have hRl : R.length = 16 := by rw [hR]; exact redO_len _
  have HQ0 : Hid (o = false → Q = []) := by unfold Hid; intro h; rw [hQ]; unfold sc2; rw [← ho, h]; rfl
  have HQ1 : Hid (o = true → Q = R) := by unfold Hid; intro h; rw [hQ, hR]; unfold sc2; rw [← ho, h]; rfl
  have HF : Hid (o = true → ∀ Z, Vr Z 6 (I64 OL) → Calls Tryz.prog 81 #[.agg (I64 (scL xs)).toArray, .agg (I64 (scL ys)).toArray] Z fun e w' => e = .returned (.agg (I64 R).toArray) ∧ Below Z.heap.size Z w') := by
    unfold Hid; intro h Z hZ
    rw [ho, Bool.and_eq_true] at h
    have e1 : scL xs = xs := by unfold scL; rw [if_pos h.1]
    have e2 : scL ys = ys := by unfold scL; rw [if_pos h.2]
    rw [e1, e2, hR]
    exact implMuProd xs ys Z h.1 h.2 hZ
  obtain ⟨S, hS⟩ : ∃ S, S = scL xs := ⟨_, rfl⟩
  obtain ⟨T, hT⟩ : ∃ T, T = scL ys := ⟨_, rfl⟩
  rw [← hS] at HO hSl HF
  rw [← hT] at HO hTl HF
  rw [← ho] at HO ⊢
  rw [← hQ]
  have HO' : Hid (Calls Tryz.prog 80 #[.agg #[.slice a n c], .agg #[.slice b m d]] W fun e w' => e = .returned (.tuple #[.agg (I64 S).toArray, .agg (I64 T).toArray, .bool o]) ∧ Below W.heap.size W w') := HO
  have his : (Tryz.prog.info? 92).map (·.size) = some (I64 S).toArray.size := by simpa [hSl] using infoM
  have hit : (Tryz.prog.info? 92).map (·.size) = some (I64 T).toArray.size := by simpa [hTl] using infoM
  clear HO hS hT ho hQ hR hx hy hV
  go_enter Tryz.func37, Tryz.ntmps37
  go_wp2_with fail
  rw [← hW]
  refine HO'.out.mono ?_
  rintro e w1 ⟨rfl, hb1⟩
  replace EE := EE.go hb1
  obtain ⟨bV, p1, p2, q1, q2⟩ := laid_mu2 w1 S T
  have hlt1 := EE.pr.lt
  replace EE := EE.go bV
  clear hW hb1 HO' bV
  obtain ⟨V, hVV⟩ : ∃ V, V = (((w1.alloc (.cells #[.int .i64 0, .int .i64 0, .int .i64 0, .int .i64 0, .int .i64 0, .int .i64 0, .int .i64 0, .int .i64 0, .int .i64 0, .int .i64 0, .int .i64 0, .int .i64 0, .int .i64 0, .int .i64 0, .int .i64 0, .int .i64 0] 92)).alloc (.cells #[.int .i64 0, .int .i64 0, .int .i64 0, .int .i64 0, .int .i64 0, .int .i64 0, .int .i64 0, .int .i64 0, .int .i64 0, .int .i64 0, .int .i64 0, .int .i64 0, .int .i64 0, .int .i64 0, .int .i64 0, .int .i64 0] 92)).setRow w1.heap.size (I64 S).toArray).setRow (w1.heap.size + 1) (I64 T).toArray := ⟨_, rfl⟩
  rw [← hVV] at EE p1 p2
  have HV : Hid _ := hVV
  cases o with
  | false =>
    have HE : Hid (Q = []) := HQ0.out rfl
    have hcr : V.cell? ⟨w.heap.size + 2, 0, none⟩ = some (.slice none 0 0) := EE.pr.cell 0
    have hfr := EE.pr.frozen 0
    have HA : Hid _ := EE.pr.set 0 (.slice none 0 0)
    have HB : Hid _ := EE.fr.setCell (p := ⟨w.heap.size + 2, 0, none⟩) (by simp only; omega) (.slice none 0 0)
    rw [hVV] at hcr hfr
    clear EE HQ0 HQ1 HF p1 p2 hVV
    go_wp2_with (first
      | (refine wpList_store_row rfl 92 _ _ rfl w1.heap.size (I64 S).toArray rfl rfl 92 _ q1 his (by simp [hSl]) (by simp [Value.oneCell']) ?_)
      | (refine wpList_store_row rfl 92 _ _ rfl (w1.heap.size + 1) (I64 T).toArray rfl rfl 92 _ q2 hit (by simp [hTl]) (by simp [Value.oneCell']) ?_))
    rw [← HV.out]
    exact bodyPost_ret (results_row_tmp (v := .bool false) (cs := [.slice none 0 0]) rfl rfl rfl HA.out Tryz.underlying41 rfl infoSc) rfl ⟨_, rfl, HE.out ▸ feT_nil _ _ _, HB.out⟩
  | true =>
    have HE : Hid (Q = R) := HQ1.out rfl
    have HY : Hid (∀ Z, Vr Z 6 (I64 OL) → Calls Tryz.prog 81 #[.agg (I64 S).toArray, .agg (I64 T).toArray] Z fun e w' => e = .returned (.agg (I64 R).toArray) ∧ Below Z.heap.size Z w') := HF.out rfl
    rw [hVV] at p1 p2
    clear HQ0 HQ1 HF hVV
    go_wp2_with (first
      | (refine wpList_store_row rfl 92 _ _ rfl w1.heap.size (I64 S).toArray rfl rfl 92 _ q1 his (by simp [hSl]) (by simp [Value.oneCell']) ?_)
      | (refine wpList_store_row rfl 92 _ _ rfl (w1.heap.size + 1) (I64 T).toArray rfl rfl 92 _ q2 hit (by simp [hTl]) (by simp [Value.oneCell']) ?_)
      | (refine wpList_load_row rfl 92 _ rfl w1.heap.size rfl 92 (I64 S).toArray (0, 0) _ p1 Tryz.underlying92 rfl his ?_)
      | (refine wpList_load_row rfl 92 _ rfl (w1.heap.size + 1) rfl 92 (I64 T).toArray (0, 0) _ p2 Tryz.underlying92 rfl hit ?_))
    rw [← HV.out]
    clear HV p1 p2 q1 q2
    refine (HY.out _ EE.vr).mono ?_
    rintro e w2 ⟨rfl, hb2⟩
    replace EE := EE.go hb2
    clear hb2 HY
    go_wp2_with (refine wpList_part rfl _ rfl R hRl rfl ?_)
    refine (implList R _ hRl).mono ?_
    rintro e w4 ⟨a', c', rfl, ho, hb4⟩
    have hlt := EE.pr.lt
    have hsz := EE.fr.size
    replace EE := EE.go hb4
    have HOW : Hid _ := own_base (own_otherS ho ⟨w.heap.size + 2, 0, none⟩ (.slice a' 16 c') hlt) hsz
    have hcr : w4.cell? ⟨w.heap.size + 2, 0, none⟩ = some (.slice none 0 0) := EE.pr.cell 0
    have hfr := EE.pr.frozen 0
    have HA : Hid _ := EE.pr.set 0 (.slice a' 16 c')
    have HB : Hid _ := EE.fr.setCell (p := ⟨w.heap.size + 2, 0, none⟩) (by simp only; omega) (.slice a' 16 c')
    clear EE ho hb4 hsz hlt
    go_wp2
    exact bodyPost_ret (results_row_tmp (v := .bool true) (cs := [.slice a' 16 c']) rfl rfl rfl HA.out Tryz.underlying41 rfl infoSc) rfl ⟨_, rfl, HE.out ▸ feT_16 hRl HOW.out, HB.out⟩

end Go.Proofs.YtihoaakbkffejaaGreatDoor

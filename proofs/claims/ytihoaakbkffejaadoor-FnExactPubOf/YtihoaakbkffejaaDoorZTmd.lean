/-
  What is proved here: a value that comes up alone in a region that draws its order, its place told; no program is spoken of, no condition; the contract of the program's secretOf; where its variables hold what its text lays; the contract of the program's PubOf; where its variables hold what its text lays; the contract of the laws' eqByteS; contracts of two helpers of the exact laws (copy a slice of bytes, hold two against each other), for every slice of at most 2^21 bytes.
-/
import Derived.Test.YtihoaakbkffejaaDoorZTm
import Derived.Test.YtihoaakbkffejaaDoorZVg
import Derived.Test.YtihoaakbkffejaaDoorZBx
import Derived.Test.YtihoaakbkffejaaDoorZQk
import Derived.Test.YtihoaakbkffejaaDoorProg
import Derived.Test.YtihoaakbkffejaaDoorZArr
import Derived.Deep.QuietTactic
import Derived.BigQuiet
namespace Go.Proofs.YtihoaakbkffejaaDoor
open Go.RowKit

theorem st_setd {P : Program} {ops : Array Oper} {Q : Exit → Act → World → Prop} {listed : Array Bool} {fuel i : Nat} {o : Oper} {d : Nat} {a : Act} {w : World} {v : Value} (hr : Region.ready .any ops listed = [i]) (ho : ops[i]? = some o) (hg : o.guard = none) (hd : o.dst = some d) (hx : (execOp a.eval o).run P w = .ok (.value v) w)
    (h : wpAny P .any ops Q fuel (listed.setIfInBounds i true) ⟨a.tmps.setIfInBounds d v, a.defers⟩ w) : wpAny P .any ops Q (fuel + 1) listed a w :=
  st_set hr ho hg hx (by rw [hd]; exact h)
end Go.Proofs.YtihoaakbkffejaaDoor
namespace Go.Proofs.YtihoaakbkffejaaDoor
open Go.RowKit
set_option maxRecDepth 100000

theorem infoSecret : (Tryd.prog.info? 41).map (·.size) = some 2 := by kernel_rfl
def zb32 : Array Value := #[.int .u8 0, .int .u8 0, .int .u8 0, .int .u8 0, .int .u8 0, .int .u8 0, .int .u8 0, .int .u8 0, .int .u8 0, .int .u8 0, .int .u8 0, .int .u8 0, .int .u8 0, .int .u8 0, .int .u8 0, .int .u8 0, .int .u8 0, .int .u8 0, .int .u8 0, .int .u8 0, .int .u8 0, .int .u8 0, .int .u8 0, .int .u8 0, .int .u8 0, .int .u8 0, .int .u8 0, .int .u8 0, .int .u8 0, .int .u8 0, .int .u8 0, .int .u8 0]
theorem make32 (w : World) : (Instr.makeSlice 22 (.int .i64 32) (.int .i64 32)).run Tryd.prog w = .ok (.slice (some ⟨w.heap.size, 0, none⟩) 32 32) (w.alloc (.cells zb32 5)) := by kernel_rfl
theorem zb_bs (w : World) : Bs (w.alloc (.cells zb32 5)) (some ⟨w.heap.size, 0, none⟩) 32 32 (List.replicate 32 0) := by
 have ow : (w.alloc (.cells zb32 5)).ownsRow w.heap.size 5 1 (.slice (some ⟨w.heap.size, 0, none⟩) 32 32) 32 (U8 (List.replicate 32 0)) := World.ownsRow_lit (base := w.heap.size) (e := 5) (size := 1) w zb32 32 (Nat.le_refl _) (by unfold maxLen; omega) rfl
 exact bs_of_own ow (fun x hx => by have := List.eq_of_mem_replicate hx; omega)
set_option maxHeartbeats 4000000 in
theorem implSecret (a : Option Addr) (c : Nat) (bs : List Int) (w : World) (hx : Bs w a 32 c bs) (hG : VarsOk w) :
  Calls Tryd.prog 15 #[.slice a 32 c] w fun e w' => ∃ ac cc ab cb, e = .returned (.tuple #[.agg #[.slice ac 16 cc, .slice ab 32 cb], .bool true]) ∧ Is w' ac 16 cc (redO (val (sA bs))) ∧ Bs w' ab 32 cb ((sumOfW bs).drop 32) ∧ Below w.heap.size w w' := by
 have hn : bs.length = 32 := hx.2.1
 have HH : Hid (∀ Z, Below w.heap.size w Z → Calls Tryd.prog 25 #[.slice a 32 c] Z fun e w' => ∃ v, e = .returned v ∧ w'.ownsRow Z.heap.size 5 1 v 64 (U8 (sumOfW bs)) ∧ Below Z.heap.size Z w') := by
  unfold Hid; intro Z hZ; have h := implSha512 a 32 c bs Z (hx.below hZ) (hG.kept hZ).T (hG.kept hZ).F
  have e1 : s512 bs = sumOfW bs := by unfold s512; rw [if_pos (by omega)]
  rw [e1, sumOfW_len] at h; exact h
 have hs := sumOfW_len bs
 have hb := sumOfW_byte bs
 obtain ⟨S, hS⟩ : ∃ S, S = sumOfW bs := ⟨_, rfl⟩
 have hK : redO (val (sA bs)) = redO (val (clL (rdL (S.take 32)))) := by rw [hS]; rfl
 rw [hK, ← hS]
 rw [← hS] at HH hs hb
 clear hK hS
 have HSB : Hid _ := hb
 have ht : (S.take 32).length = 32 := by simp [hs]
 have HC : Hid (∀ a c Z, Bs Z a 32 c (S.take 32) → Calls Tryd.prog 26 #[.slice a 32 c] Z fun e w' => ∃ v, e = .returned (.tuple #[v, .bool true]) ∧ w'.ownsRow Z.heap.size 5 1 v 32 (U8 (clB (S.take 32))) ∧ Below Z.heap.size Z w') := by
  unfold Hid; intro a c Z h; have h2 := implClamp a 32 c _ Z h
  have e1 : cpOk (S.take 32) = true := by unfold cpOk; exact decide_eq_true ht
  have e2 : cpL (S.take 32) = clB (S.take 32) := by unfold cpL; rw [if_pos e1]
  rw [e1, e2, clB_len, ht] at h2; exact h2
 obtain ⟨C, hC⟩ : ∃ C, C = clB (S.take 32) := ⟨_, rfl⟩
 have hCb : ∀ x ∈ C, 0 ≤ x ∧ x < 256 := by rw [hC]; exact clB_byte (take_byte hb 32)
 have hCl : C.length = 32 := by rw [hC, clB_len, ht]
 have hCv : val (wdL (C ++ List.replicate 32 0)) = val (clL (rdL (S.take 32))) := by rw [wide_pad hCl, hC, rdL_clB ht (take_byte hb 32)]
 rw [← hC] at HC
 rw [← hCv]
 have HCB : Hid _ := hCb
 obtain ⟨K, hK⟩ : ∃ K, K = redO (val (wdL (C ++ List.replicate 32 0))) := ⟨_, rfl⟩
 have HW : Hid (∀ a c Z, Below w.heap.size w Z → Bs Z a 64 c (C ++ List.replicate 32 0) → Calls Tryd.prog 27 #[.slice a 64 c] Z fun e w' => ∃ ac cc, e = .returned (.tuple #[.agg #[.slice ac 16 cc], .bool true]) ∧ w'.ownsRow Z.heap.size 81 1 (.slice ac 16 cc) 16 (I64 K) ∧ Below Z.heap.size Z w') := by
  unfold Hid; intro a c Z hZ h; refine (implScWide a 64 c _ Z h (hG.kept hZ).O).mono ?_
  rintro e z ⟨v, rfl, ⟨ac, cc, rfl, oo⟩, hb⟩
  have e1 : wdOk (C ++ List.replicate 32 0) = true := by unfold wdOk; exact decide_eq_true (by simp [hCl])
  have e2 : wdF (C ++ List.replicate 32 0) = K := by unfold wdF; rw [if_pos e1, hK]
  have e3 : K.length = 16 := by rw [hK]; exact redO_len _
  rw [e2, e3] at oo ⊢; rw [e1]
  exact ⟨ac, cc, rfl, oo, hb⟩
 have HKI : Hid _ := sc_int (show scOk K = true by rw [hK]; exact redO_ok _)
 rw [← hK]
 clear hK hCv hC hCb hb hx
 have hmk := make32
 have huS : Tryd.prog.underlying 39 = some _ := Tryd.underlying39
 obtain ⟨W, hW⟩ : ∃ W, W = w.alloc (.cells #[.slice none 0 0, .slice none 0 0] 41) := ⟨_, rfl⟩
 have fr : Below w.heap.size w W := by rw [hW]; exact ((Below.refl _ _).alloc (Nat.le_refl _) _)
 have pr : Arr W w.heap.size 41 ([.slice none 0 0, .slice none 0 0]) := by
  rw [hW]
  have := Arr.new (w) ([.slice none 0 0, .slice none 0 0]) 41
  exact this
 clear hG
 go_enter Tryd.func15, Tryd.ntmps15
 go_upto_region 3 with fail
 rw [← hW]
 clear hW
 obtain ⟨y0, hy0⟩ : ∃ y, y = W := ⟨_, rfl⟩
 rw [← hy0] at fr pr ⊢
 clear hy0
 have hly0 := pr.lt
 go_wp2_with fail
 refine (HH.out _ fr).mono ?_
 rintro e y1 ⟨v, rfl, ho, hb1⟩
 replace fr := fr.trans (hb1.mono fr.size)
 replace pr := pr.kept hb1
 clear hb1
 obtain ⟨g, cap, rfl⟩ : ∃ g cap, v = .slice (some ⟨g, 0, none⟩) 64 cap := by
  rcases ho.2 with ⟨_, hv⟩ | ⟨g, cap, cu, hv, hg, _⟩
  ·omega
  ·exact ⟨g, cap, hv⟩
 have hB := bs_of_own ho HSB.out
 have hl1 : w.heap.size < y0.heap.size := hly0
 have iS := In.of ho
 have oS := ho
 clear ho
 have hcc : (32 : Int) ≤ (cap : Int) := by have := hB.2.2.1; omega
 have hcc2 : ¬ ((cap : Int) < 32) := by omega
 have hcne : ¬ cap = 32 := by have := hB.2.2.1; omega
 go_wp2_with fail
 refine (HC.out _ _ _ (hB.takeW (m := 32) (by omega))).mono ?_
 rintro e y2 ⟨v, rfl, ho, hb1⟩
 replace fr := fr.trans (hb1.mono fr.size)
 replace pr := pr.kept hb1
 replace hB := hB.below hb1
 replace oS := own_below oS hb1
 clear hb1
 obtain ⟨ak, ck, rfl, hck, hBk⟩ := Bs.own ho HCB.out
 clear ho
 go_upto_region 5 with fail
 obtain ⟨Z1, hZ1⟩ : ∃ Z, Z = y2.alloc (.cells zb32 5) := ⟨_, rfl⟩
 obtain ⟨Z2, hZ2⟩ : ∃ Z, Z = Z1.alloc (.cells #[.slice ak 32 ck, .slice (some ⟨y2.heap.size, 0, none⟩) 32 32] 22) := ⟨_, rfl⟩
 have b1 : Below y2.heap.size y2 Z1 := by rw [hZ1]; exact (Below.refl _ _).alloc (Nat.le_refl _) _
 have b2 : Below Z1.heap.size Z1 Z2 := by rw [hZ2]; exact (Below.refl _ _).alloc (Nat.le_refl _) _
 have hz : Bs Z1 (some ⟨y2.heap.size, 0, none⟩) 32 32 (List.replicate 32 0) := by rw [hZ1]; exact zb_bs y2
 have hq : Arr Z2 Z1.heap.size 22 [.slice ak 32 ck, .slice (some ⟨y2.heap.size, 0, none⟩) 32 32] := by rw [hZ2]; exact Arr.new _ _ _
 replace hz := hz.below b2
 replace fr := (fr.trans (b1.mono fr.size)).trans (b2.mono (fr.trans (b1.mono fr.size)).size)
 replace pr := (pr.kept b1).kept b2
 replace hB := (hB.below b1).below b2
 replace oS := own_below (own_below oS b1) b2
 replace hBk := (hBk.below b1).below b2
 have hlz : Z1.heap.size = y2.heap.size + 1 := by rw [hZ1]; simp
 clear b1 b2
 go_wp2_with fail
 rw [← hZ1, ← hZ2]
 rw [hlz] at hq
 clear hZ1 hZ2 hlz
 refine (concat2 (y2.heap.size + 1) ak (some ⟨y2.heap.size, 0, none⟩) 32 ck 32 32 C (List.replicate 32 0) _ hq.lt (hq.cell 0) (hq.cell 1) hBk hz (by omega) (by omega)).mono ?_
 rintro e y3 ⟨v, rfl, ho, hb1⟩
 replace fr := fr.trans (hb1.mono fr.size)
 replace pr := pr.kept hb1
 replace hB := hB.below hb1
 replace oS := own_below oS hb1
 clear hb1 hz hq hBk
 obtain ⟨aw, cw, rfl, hcw, hBw⟩ := Bs.own ho (app_byte HCB.out (fun x hx => by have := List.eq_of_mem_replicate hx; omega))
 clear ho
 go_wp2_with fail
 refine (HW.out _ _ _ fr hBw).mono ?_
 rintro e y4 ⟨ac, cc, rfl, oI, hb1⟩
 have iI := In.of oI
 have hl3 := pr.lt
 replace fr := fr.trans (hb1.mono fr.size)
 replace pr := pr.kept hb1
 replace hB := hB.below hb1
 replace oS := own_below oS hb1
 clear hb1 hBw
 have hl := pr.lt
 go_upto_region 6 with fail
 obtain ⟨Z6, hZ6⟩ : ∃ Z, Z = y4.alloc (.cells #[.slice ac 16 cc] 39) := ⟨_, rfl⟩
 have b6 : Below y4.heap.size y4 Z6 := by rw [hZ6]; exact (Below.refl _ _).alloc (Nat.le_refl _) _
 have As : Arr Z6 y4.heap.size 39 [.slice ac 16 cc] := by rw [hZ6]; exact Arr.new _ _ _
 rw [← hZ6]
 replace fr := fr.trans (b6.mono fr.size)
 replace pr := pr.kept b6
 replace oS := own_below oS b6
 replace oI := own_below oI b6
 have hl6 : w.heap.size < y4.heap.size := hl
 obtain ⟨Xs, hXs⟩ : ∃ X, X = y4.heap.size := ⟨_, rfl⟩
 rw [← hXs] at As hl6 ⊢
 clear hZ6 b6 hB hXs hl
 try simp only [Act.put]
 refine tame [kc 29 (.agg ([.slice ac 16 cc]).toArray), kc 30 (.slice (some ⟨g, 0, none⟩) 64 cap), kc 31 (.slice (some ⟨g, 32, none⟩) 32 (cap - 32)), kc 32 (.agg #[.slice ac 16 cc, .slice (some ⟨g, 32, none⟩) 32 (cap - 32)])] 4 (by kernel_rfl) (by kernel_rfl) (by kernel_rfl) (by repeat' first | exact trivial | apply kc_keeps | apply ka_keeps | constructor) 2 (by kernel_rfl) (fun vv1 ll1 hh1 yW b => ?_) (fun vv1 ll1 hh1 yW b F ivh aph => ?_)
 ·skip
  replace fr := fr.trans (b.mono fr.size)
  replace pr := pr.kept b
  replace As := As.kept b
  replace oS := own_below oS b
  replace oI := own_below oI b
  exact ⟨ts (arr_range As) infoSc huS (by kernel_rfl),
   tp (by kernel_rfl),
   tp (by simp only [fillK, putT, List.setIfInBounds_toArray, List.set_cons_zero, List.set_cons_succ]; unfold execOp; go_simp),
   tp (by kernel_rfl), trivial⟩
 obtain ⟨y1, hy⟩ : ∃ z, z = yW := ⟨_, rfl⟩
 rw [← hy] at b F ivh ⊢
 clear hy
 have oq : w.heap.size < Z6.heap.size ∧ Xs < Z6.heap.size ∧ w.heap.size ≤ Z6.heap.size := ⟨pr.lt, As.lt, fr.size⟩
 replace fr := fr.trans (b.mono fr.size)
 replace pr := pr.kept b
 replace As := As.kept b
 replace oS := own_below oS b
 replace oI := own_below oI b
 clear F
 refine st_row (i := 4) (cells := [.slice ac 16 cc, .slice (some ⟨g, 32, none⟩) 32 (cap - 32)]) (by kernel_rfl) rfl rfl rfl rfl pr (by kernel_rfl) (by kernel_rfl) (by simp) infoSecret (by simp [Value.oneCell']) ?_
 replace fr := bel_sc fr w.heap.size ([.slice ac 16 cc, .slice (some ⟨g, 32, none⟩) 32 (cap - 32)]) (by omega)
 replace pr := pr.sc0 ([.slice ac 16 cc, .slice (some ⟨g, 32, none⟩) 32 (cap - 32)]) (by simp)
 replace As := As.sc w.heap.size ([.slice ac 16 cc, .slice (some ⟨g, 32, none⟩) 32 (cap - 32)]) (by omega)
 replace oS : (y1.setCells w.heap.size 0 ([.slice ac 16 cc, .slice (some ⟨g, 32, none⟩) 32 (cap - 32)])).ownsRow y0.heap.size 5 1 (.slice (some ⟨g, 0, none⟩) 64 cap) 64 (U8 S) := own_setCells oS iS (.inl (by omega)) _
 replace oI : (y1.setCells w.heap.size 0 ([.slice ac 16 cc, .slice (some ⟨g, 32, none⟩) 32 (cap - 32)])).ownsRow y3.heap.size 81 1 (.slice ac 16 cc) 16 (I64 K) := own_setCells oI iI (.inl (by omega)) _
 obtain ⟨V2, hVe⟩ : ∃ V, V = y1.setCells w.heap.size 0 ([.slice ac 16 cc, .slice (some ⟨g, 32, none⟩) 32 (cap - 32)]) := ⟨_, rfl⟩
 rw [← hVe] at fr pr As oS oI ⊢
 clear hVe
 refine st_setd (i := 5) (d := 3) (v := Value.bool true) (by kernel_rfl) rfl rfl rfl (by kernel_rfl) ?_
 refine wpAny_done (by kernel_rfl) ?_ _
 simp only [fillK, putT, List.setIfInBounds_toArray, List.set_cons_zero, List.set_cons_succ]
 clear ivh aph b oq
 go_wp2
 exact bodyPost_ret (results_row_tmp (v := .bool true) (cs := [.slice ac 16 cc, .slice (some ⟨g, 32, none⟩) 32 (cap - 32)]) rfl rfl rfl pr Tryd.underlying41 rfl infoSecret) rfl ⟨ac, cc, _, _, rfl, is_of_own oI HKI.out, (bs_of_own oS HSB.out).dropW (m := 32) (by omega), fr⟩

end Go.Proofs.YtihoaakbkffejaaDoor
namespace Go.Proofs.YtihoaakbkffejaaDoor
open Go.RowKit
set_option maxRecDepth 100000

set_option maxHeartbeats 2000000 in
theorem implSecretNo (a : Option Addr) (n c : Nat) (w : World) (hn : n ≠ 32) :
  Calls Tryd.prog 15 #[.slice a n c] w fun e w' => e = .returned (.tuple #[.agg #[.slice none 0 0, .slice none 0 0], .bool false]) ∧ Below w.heap.size w w' := by
 have hne : ((n : Int) != 32) = true := by simp; omega
 have hbs : ∀ w, (Instr.build 41 #[]).run Tryd.prog w = .ok (.agg #[.slice none 0 0, .slice none 0 0]) w := fun w => by kernel_rfl
 have pr : Arr (w.alloc (.cells #[.slice none 0 0, .slice none 0 0] 41)) w.heap.size 41 [.slice none 0 0, .slice none 0 0] := Arr.new _ _ _
 have B : Below w.heap.size w (w.alloc (.cells #[.slice none 0 0, .slice none 0 0] 41)) := (Below.refl _ _).alloc (Nat.le_refl _) _
 go_enter Tryd.func15, Tryd.ntmps15
 go_wp2
 exact bodyPost_ret (results_row_tmp (v := .bool false) (cs := [.slice none 0 0, .slice none 0 0]) rfl rfl rfl pr Tryd.underlying41 rfl infoSecret) rfl ⟨rfl, B⟩

set_option maxHeartbeats 4000000 in
theorem implPubOf (a : Option Addr) (n c : Nat) (bs : List Int) (w : World) (hx : Bs w a n c bs) (hG : VarsOk w) :
  Calls Tryd.prog 6 #[.slice a n c] w fun e w' => ∃ v, e = .returned (.tuple #[v, .bool (pbOk bs)]) ∧ w'.ownsRow w.heap.size 5 1 v (pbL bs).length (U8 (pbL bs)) ∧ Below w.heap.size w w' := by
 haveI := nzP
 have hn : bs.length = n := hx.2.1
 by_cases h : n = 32
 ·subst h
  have hok : pbOk bs = true := by unfold pbOk; exact decide_eq_true hn
  have hL : pbL bs = baseB (val (redO (val (sA bs)))).toNat := by
   have h1 := (lm_256 (sA_len bs) (sA_lm bs)).1
   have e1 : (val (redO (val (sA bs)))).toNat = (val (sA bs)).toNat % oN := by
    rw [val_redO, qO_oN]
    obtain ⟨N, hN⟩ := Int.eq_ofNat_of_zero_le h1
    rw [hN, ← Int.natCast_emod]
    rfl
   unfold pbL; rw [if_pos hok, e1, baseB_red]
  rw [hok, hL, baseB_len]
  have HS : Hid (Calls Tryd.prog 15 #[.slice a 32 c] w fun e w' => ∃ ac cc ab cb, e = .returned (.tuple #[.agg #[.slice ac 16 cc, .slice ab 32 cb], .bool true]) ∧ Is w' ac 16 cc (redO (val (sA bs))) ∧ Bs w' ab 32 cb ((sumOfW bs).drop 32) ∧ Below w.heap.size w w') := implSecret a c bs w hx hG
  obtain ⟨K, hK⟩ : ∃ K, K = redO (val (sA bs)) := ⟨_, rfl⟩
  have HT : Hid (∀ ak ck Z, Is Z ak 16 ck K → Below w.heap.size w Z → Calls Tryd.prog 16 #[.agg #[.slice ak 16 ck]] Z fun e w' => ∃ v, e = .returned v ∧ w'.ownsRow Z.heap.size 5 1 v 32 (U8 (baseB (val K).toNat)) ∧ Below Z.heap.size Z w') := by
   unfold Hid; intro ak ck Z h hZ; exact implBaseTimes ak ck K Z h (by rw [hK]; exact redO_ok _) (hG.kept hZ)
  rw [← hK] at HS ⊢
  clear hK hok hL hG hx
  go_enter Tryd.func6, Tryd.ntmps6
  go_wp2_with fail
  refine HS.out.mono ?_
  rintro e y1 ⟨ac, cc, ab, cb, rfl, hI, _, hb1⟩
  go_upto_region 2 with fail
  obtain ⟨Z, hZ⟩ : ∃ Z, Z = y1.alloc (.cells #[.slice ac 16 cc, .slice ab 32 cb] 41) := ⟨_, rfl⟩
  have b2 : Below y1.heap.size y1 Z := by rw [hZ]; exact (Below.refl _ _).alloc (Nat.le_refl _) _
  have A : Arr Z y1.heap.size 41 [.slice ac 16 cc, .slice ab 32 cb] := by rw [hZ]; exact Arr.new _ _ _
  rw [← hZ]
  clear hZ
  replace hI := hI.below b2
  replace hb1 := hb1.trans (b2.mono hb1.size)
  have c0 : Z.cell? ⟨y1.heap.size, 0, none⟩ = some (.slice ac 16 cc) := A.cell 0
  clear b2 A
  go_wp2_with fail
  refine (HT.out _ _ _ hI hb1).mono ?_
  rintro e y2 ⟨v, rfl, ho, hb2⟩
  go_wp2
  go_ret2
  exact ⟨v, rfl, own_base ho hb1.size, hb1.trans (hb2.mono hb1.size)⟩
 ·have hok : pbOk bs = false := by unfold pbOk; exact decide_eq_false (by omega)
  have hL : pbL bs = [] := by unfold pbL; rw [if_neg (by simp [hok])]
  rw [hok, hL]
  have HS : Hid (Calls Tryd.prog 15 #[.slice a n c] w fun e w' => e = .returned (.tuple #[.agg #[.slice none 0 0, .slice none 0 0], .bool false]) ∧ Below w.heap.size w w') := implSecretNo a n c w h
  go_enter Tryd.func6, Tryd.ntmps6
  go_wp2_with fail
  refine HS.out.mono ?_
  rintro e y1 ⟨rfl, hb1⟩
  go_wp2
  go_ret2
  exact ⟨_, rfl, World.ownsRow_nil _ _ _ _, hb1.trans ((Below.refl _ _).alloc (by exact hb1.size) _)⟩
end Go.Proofs.YtihoaakbkffejaaDoor
namespace Go.Proofs.YtihoaakbkffejaaDoor
open Go.RowKit

theorem set_take (xs : List Int) (n k : Nat) (h : k < xs.length) (hn : xs.length = n) :
    (U8 (xs.take k ++ List.replicate (n - k) 0)).set k (.int .u8 (xs.getD k 0)) = U8 (xs.take (k + 1) ++ List.replicate (n - (k + 1)) 0) := by
  have e : n - k = (n - (k + 1)) + 1 := by omega
  rw [take_snoc xs k h, e, List.replicate_succ]
  have hl : (xs.take k).length = k := by simp; omega
  simp only [U8, List.map_append, List.map_cons]
  rw [List.set_append_right _ _ (by simp; omega)]
  simp [Nat.min_eq_left (show k ≤ xs.length by omega)]

set_option maxHeartbeats 400000 in
theorem eqB (a a' : Option Addr) (n cap cap' : Nat) (xs : List Int) (w : World) (h : Bs w a n cap xs) (h' : Bs w a' n cap' xs) (hn : n ≤ 2097152) :
    Calls Tryd.prog 7 #[.slice a n cap, .slice a' n cap'] w fun e w' => ∃ q, e = .returned (.bool true) ∧ w' = w.drewN q := by
  obtain ⟨_, hl, hc, hby, h⟩ := h
  obtain ⟨_, _, hc', _, h'⟩ := h'
  have hne : ((n : Int) != (n : Int)) = false := by simp
  go_enter Tryd.func7, Tryd.ntmps7
  go_wp2
  go_loopw [5] (fun i wr => ∃ k q : Nat, k ≤ n ∧ i = .int .i64 k ∧ wr = w.drewN q) (fun i _ => n - (intOf i).toNat)
  case atStart => exact ⟨0, 0, Nat.zero_le _, rfl, rfl⟩
  case round =>
    obtain ⟨k, q, hk, rfl, rfl⟩ := hrel
    by_cases hlt : k < n
    · rcases h with h | ⟨b, o, rfl, hbs, hcell⟩
      · omega
      · rcases h' with h' | ⟨b', o', rfl, hbs', hcell'⟩
        · omega
        · obtain ⟨x, hx⟩ : ∃ x, x = xs.getD k 0 := ⟨_, rfl⟩
          have hck : w.cell? ⟨b, o + k, none⟩ = some (.int .u8 x) := by rw [hx]; exact hcell k hlt
          have hck' : w.cell? ⟨b', o' + k, none⟩ = some (.int .u8 x) := by rw [hx]; exact hcell' k hlt
          have hxx : (x != x) = false := by simp
          have hlt' : (k : Int) < (n : Int) := by omega
          clear hcell hcell' hx
          go_wp2
          go_quiet (fail)
          go_wp2
          go_roundw
          case rel => exact ⟨k + 1, _, by omega, by go_num, rfl⟩
          case measure => simp [intOf]; omega
    · go_wp2
      go_ret
      exact ⟨q, rfl, rfl⟩

end Go.Proofs.YtihoaakbkffejaaDoor
namespace Go.Proofs.YtihoaakbkffejaaDoor
open Go.RowKit

set_option maxHeartbeats 400000 in
theorem toB (a : Option Addr) (n cap : Nat) (xs : List Int) (w : World) (h : Bs w a n cap xs) (hn : n ≤ 2097152) :
    Calls Tryd.prog 5 #[.slice a n cap] w fun e w' => ∃ v, e = .returned v ∧ w'.ownsRow w.heap.size 5 1 v n (U8 xs) ∧ Below w.heap.size w w' := by
  obtain ⟨i0, hi, hz0, hz1, hz2⟩ := info_parts Tryd.info5
  obtain ⟨_, hl, hc, _, h⟩ := h
  go_enter Tryd.func5, Tryd.ntmps5
  go_wp2_with (at_make; refine wpList_make_full _ rfl _ _ 22 rfl w.heap.size 5 i0 (.int .u8 0) 1 Tryd.underlying22 hi hz0 hz1 .i64 .i64 n n n rfl rfl rfl rfl (by rw [hz2]; omega) (by unfold maxLen; omega) (Nat.le_refl _) ?_; intro w1 hown hgrow)
  have hbel : Below w.heap.size w w1 := (Below.refl _ _).grown hgrow (Nat.le_refl _) (by intro k hk; cases hk)
  have hown0 : w1.ownsRow w.heap.size 5 1 (.slice (some ⟨w.heap.size, 0, none⟩) n n) n (U8 (xs.take 0 ++ List.replicate (n - 0) 0)) := by
    have e : (madeCells (Value.int IntKind.u8 0).cells (n * 1)).toList = U8 (xs.take 0 ++ List.replicate (n - 0) 0) := by
      rw [Nat.mul_one]; simpa [U8, Value.cells] using toList_madeCells_one (.int .u8 0) n
    rw [← e]; exact hown
  clear hown hgrow
  go_loopw [4] (fun i wr => ∃ k : Nat, k ≤ n ∧ i = .int .i64 k ∧ wr.ownsRow w.heap.size 5 1 (.slice (some ⟨w.heap.size, 0, none⟩) n n) n (U8 (xs.take k ++ List.replicate (n - k) 0)) ∧ Below w.heap.size w wr) (fun i _ => n - (intOf i).toNat)
  case atStart => exact ⟨0, Nat.zero_le _, rfl, hown0, hbel⟩
  case round =>
    obtain ⟨k, hk, rfl, hown, hb⟩ := hrel
    clear hown0 hbel
    by_cases hlt : k < n
    · rcases h with h | ⟨b, o, rfl, hbs, hcell⟩
      · omega
      · obtain ⟨x, hx⟩ : ∃ x, x = xs.getD k 0 := ⟨_, rfl⟩
        have hck : wr.cell? ⟨b, o + k, none⟩ = some (.int .u8 x) := by rw [hx]; exact (hb.cell (p := ⟨b, o + k, none⟩) hbs).trans (hcell k hlt)
        have hfz := hown.frozenAt k
        obtain ⟨u, hu⟩ : ∃ u, wr.cell? ⟨w.heap.size, k, none⟩ = some u := by
          rw [hown.cellAt k (by omega)]
          have : k < (U8 (xs.take k ++ List.replicate (n - k) 0)).length := by simp; omega
          exact ⟨_, List.getElem?_eq_getElem this⟩
        have hst := hown.stored k (.int .u8 x)
        rw [hx, set_take xs n k (by omega) hl, ← hx] at hst
        have hb2 := hb.setCell (p := ⟨w.heap.size, k, none⟩) (Nat.le_refl _) (.int .u8 x)
        have HS : Hid _ := hst
        have HB : Hid _ := hb2
        clear hst hb2 hown hcell hx
        go_wp2
        go_roundw
        case rel => exact ⟨k + 1, by omega, by go_num, HS.out.1, HB.out⟩
        case measure => simp [intOf]; omega
    · have hkn : k = n := by omega
      subst hkn
      go_wp2
      go_ret
      refine ⟨_, rfl, ?_, hb⟩
      simpa [List.take_of_length_le (show xs.length ≤ k by omega)] using hown

theorem toS (a : Option Addr) (n cap : Nat) (xs : List Int) (w : World) (h : Bs w a n cap xs) (hn : n ≤ 2097152) :
    Calls Tryd.prog 5 #[.slice a n cap] w fun e w' => ∃ a' cap', e = .returned (.slice a' n cap') ∧ w'.ownsRow w.heap.size 5 1 (.slice a' n cap') n (U8 xs) ∧ Bs w' a' n cap' xs ∧ Below w.heap.size w w' := by
  have hby := h.2.2.2.1
  refine (toB a n cap xs w h hn).mono ?_
  rintro e w' ⟨v, rfl, hown, hb⟩
  obtain ⟨a', cap', rfl, _, hbs⟩ := Bs.own hown hby
  exact ⟨a', cap', rfl, hown, hbs, hb⟩
end Go.Proofs.YtihoaakbkffejaaDoor

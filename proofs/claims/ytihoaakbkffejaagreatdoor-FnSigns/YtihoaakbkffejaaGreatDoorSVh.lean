/-
  What is proved here: the contract of the program's secretOf; where its variables hold what its text lays; the contract of the program's PubOf; where its variables hold what its text lays; the contract of the library's slices.Concat at three slices of at most 2^20 bytes; the contract of the program's multiplierOfSum at two and at three slices; where its variables hold what its text lays; contracts of the specification's l7join and l7mod; the contract of the specification's l5add: the sum of two multipliers, modulo the order; the contract of the specification's l5mul: the product of two multipliers; the contract of the specification's l7sign; what a signature is made of; bytes as a string, and the contract of the library's bytes.Equal at slices that are not nil; contracts of the specification's l4zero and l4eighth; when two arrays of ints are equal; the contract of the specification's l4root: the even root of a number of the field; lengths and bounds of a root; plain mathematics; whether bytes are those of a point, and which, as plain functions of the bytes; no program is spoken of.
-/
import Derived.Test.YtihoaakbkffejaaGreatDoorSVg
import Derived.Test.YtihoaakbkffejaaGreatDoorSCt
import Derived.Test.YtihoaakbkffejaaGreatDoorSQk
import Derived.Test.YtihoaakbkffejaaGreatDoorSQja
import Derived.Test.YtihoaakbkffejaaGreatDoorSOm0
import Derived.Test.YtihoaakbkffejaaGreatDoorSYc
import Derived.Laws.MakeOwn
import Derived.Test.YtihoaakbkffejaaGreatDoorSFm
import Derived.Test.YtihoaakbkffejaaGreatDoorSFyq
import Derived.Laws.BytesArg
import Derived.Laws.Strings
import Derived.Test.YtihoaakbkffejaaGreatDoorSFr
import Derived.ChangeKeysEq
import Derived.Test.YtihoaakbkffejaaGreatDoorSJg
import Derived.Test.YtihoaakbkffejaaGreatDoorSJio
namespace Go.Proofs.YtihoaakbkffejaaGreatDoor
open Go.RowKit
set_option maxRecDepth 100000

theorem infoSecret : (Tryz.prog.info? 57).map (·.size) = some 2 := by kernel_rfl
def zb32 : Array Value := #[.int .u8 0, .int .u8 0, .int .u8 0, .int .u8 0, .int .u8 0, .int .u8 0, .int .u8 0, .int .u8 0, .int .u8 0, .int .u8 0, .int .u8 0, .int .u8 0, .int .u8 0, .int .u8 0, .int .u8 0, .int .u8 0, .int .u8 0, .int .u8 0, .int .u8 0, .int .u8 0, .int .u8 0, .int .u8 0, .int .u8 0, .int .u8 0, .int .u8 0, .int .u8 0, .int .u8 0, .int .u8 0, .int .u8 0, .int .u8 0, .int .u8 0, .int .u8 0]
theorem make32 (w : World) : (Instr.makeSlice 22 (.int .i64 32) (.int .i64 32)).run Tryz.prog w = .ok (.slice (some ⟨w.heap.size, 0, none⟩) 32 32) (w.alloc (.cells zb32 5)) := by kernel_rfl
theorem zb_bs (w : World) : Bs (w.alloc (.cells zb32 5)) (some ⟨w.heap.size, 0, none⟩) 32 32 (List.replicate 32 0) := by
 have ow : (w.alloc (.cells zb32 5)).ownsRow w.heap.size 5 1 (.slice (some ⟨w.heap.size, 0, none⟩) 32 32) 32 (U8 (List.replicate 32 0)) := World.ownsRow_lit (base := w.heap.size) (e := 5) (size := 1) w zb32 32 (Nat.le_refl _) (by unfold maxLen; omega) rfl
 exact bs_of_own ow (fun x hx => by have := List.eq_of_mem_replicate hx; omega)
set_option maxHeartbeats 4000000 in
theorem implSecret (a : Option Addr) (c : Nat) (bs : List Int) (w : World) (hx : Bs w a 32 c bs) (hG : VarsOk w) :
  Calls Tryz.prog 34 #[.slice a 32 c] w fun e w' => ∃ ac cc ab cb, e = .returned (.tuple #[.agg #[.slice ac 16 cc, .slice ab 32 cb], .bool true]) ∧ Is w' ac 16 cc (redO (val (sA bs))) ∧ Bs w' ab 32 cb ((sumOfW bs).drop 32) ∧ Below w.heap.size w w' := by
 have hn : bs.length = 32 := hx.2.1
 have HH : Hid (∀ Z, Below w.heap.size w Z → Calls Tryz.prog 18 #[.slice a 32 c] Z fun e w' => ∃ v, e = .returned v ∧ w'.ownsRow Z.heap.size 5 1 v 64 (U8 (sumOfW bs)) ∧ Below Z.heap.size Z w') := by
  unfold Hid; intro Z hZ; have h := implSha512 a 32 c bs Z (hx.below hZ) (hG.kept hZ).T (hG.kept hZ).F
  have e1 : s512 bs = sumOfW bs := by unfold s512; rw [if_pos (by omega)]
  rw [e1, sumOfW_len] at h; exact h
 have hs := sumOfW_len bs
 have hb := sumOfW_byte bs
 obtain ⟨S, hS⟩ : ∃ S, S = sumOfW bs := ⟨_, rfl⟩
 have hK : redO (val (sA bs)) = redO (val (clL (rdL (S.take 32)))) := by rw [hS]; rfl
 rw [hK, ← hS]
 rw [← hS] at HH hs hb
 clear hK hS
 have HSB : Hid _ := hb
 have ht : (S.take 32).length = 32 := by simp [hs]
 have HC : Hid (∀ a c Z, Bs Z a 32 c (S.take 32) → Calls Tryz.prog 13 #[.slice a 32 c] Z fun e w' => ∃ v, e = .returned (.tuple #[v, .bool true]) ∧ w'.ownsRow Z.heap.size 5 1 v 32 (U8 (clB (S.take 32))) ∧ Below Z.heap.size Z w') := by
  unfold Hid; intro a c Z h; have h2 := implClamp a 32 c _ Z h
  have e1 : cpOk (S.take 32) = true := by unfold cpOk; exact decide_eq_true ht
  have e2 : cpL (S.take 32) = clB (S.take 32) := by unfold cpL; rw [if_pos e1]
  rw [e1, e2, clB_len, ht] at h2; exact h2
 obtain ⟨C, hC⟩ : ∃ C, C = clB (S.take 32) := ⟨_, rfl⟩
 have hCb : ∀ x ∈ C, 0 ≤ x ∧ x < 256 := by rw [hC]; exact clB_byte (take_byte hb 32)
 have hCl : C.length = 32 := by rw [hC, clB_len, ht]
 have hCv : val (wdL (C ++ List.replicate 32 0)) = val (clL (rdL (S.take 32))) := by rw [wide_pad hCl, hC, rdL_clB ht (take_byte hb 32)]
 rw [← hC] at HC
 rw [← hCv]
 have HCB : Hid _ := hCb
 obtain ⟨K, hK⟩ : ∃ K, K = redO (val (wdL (C ++ List.replicate 32 0))) := ⟨_, rfl⟩
 have HW : Hid (∀ a c Z, Below w.heap.size w Z → Bs Z a 64 c (C ++ List.replicate 32 0) → Calls Tryz.prog 17 #[.slice a 64 c] Z fun e w' => ∃ ac cc, e = .returned (.tuple #[.agg #[.slice ac 16 cc], .bool true]) ∧ w'.ownsRow Z.heap.size 65 1 (.slice ac 16 cc) 16 (I64 K) ∧ Below Z.heap.size Z w') := by
  unfold Hid; intro a c Z hZ h; refine (implScWide a 64 c _ Z h (hG.kept hZ).O).mono ?_
  rintro e z ⟨v, rfl, ⟨ac, cc, rfl, oo⟩, hb⟩
  have e1 : wdOk (C ++ List.replicate 32 0) = true := by unfold wdOk; exact decide_eq_true (by simp [hCl])
  have e2 : wdF (C ++ List.replicate 32 0) = K := by unfold wdF; rw [if_pos e1, hK]
  have e3 : K.length = 16 := by rw [hK]; exact redO_len _
  rw [e2, e3] at oo ⊢; rw [e1]
  exact ⟨ac, cc, rfl, oo, hb⟩
 have HKI : Hid _ := sc_int (show scOk K = true by rw [hK]; exact redO_ok _)
 rw [← hK]
 clear hK hCv hC hCb hb hx
 have hmk := make32
 have huS : Tryz.prog.underlying 41 = some _ := Tryz.underlying41
 obtain ⟨W, hW⟩ : ∃ W, W = w.alloc (.cells #[.slice none 0 0, .slice none 0 0] 57) := ⟨_, rfl⟩
 have fr : Below w.heap.size w W := by rw [hW]; exact ((Below.refl _ _).alloc (Nat.le_refl _) _)
 have pr : Arr W w.heap.size 57 ([.slice none 0 0, .slice none 0 0]) := by
  rw [hW]
  have := Arr.new (w) ([.slice none 0 0, .slice none 0 0]) 57
  exact this
 clear hG
 go_enter Tryz.func34, Tryz.ntmps34
 go_upto_region 3 with fail
 rw [← hW]
 clear hW
 obtain ⟨y0, hy0⟩ : ∃ y, y = W := ⟨_, rfl⟩
 rw [← hy0] at fr pr ⊢
 clear hy0
 have hly0 := pr.lt
 go_wp2_with fail
 refine (HH.out _ fr).mono ?_
 rintro e y1 ⟨v, rfl, ho, hb1⟩
 replace fr := fr.trans (hb1.mono fr.size)
 replace pr := pr.kept hb1
 clear hb1
 obtain ⟨g, cap, rfl⟩ : ∃ g cap, v = .slice (some ⟨g, 0, none⟩) 64 cap := by
  rcases ho.2 with ⟨_, hv⟩ | ⟨g, cap, cu, hv, hg, _⟩
  ·omega
  ·exact ⟨g, cap, hv⟩
 have hB := bs_of_own ho HSB.out
 have hl1 : w.heap.size < y0.heap.size := hly0
 have iS := In.of ho
 have oS := ho
 clear ho
 have hcc : (32 : Int) ≤ (cap : Int) := by have := hB.2.2.1; omega
 have hcc2 : ¬ ((cap : Int) < 32) := by omega
 have hcne : ¬ cap = 32 := by have := hB.2.2.1; omega
 go_wp2_with fail
 refine (HC.out _ _ _ (hB.takeW (m := 32) (by omega))).mono ?_
 rintro e y2 ⟨v, rfl, ho, hb1⟩
 replace fr := fr.trans (hb1.mono fr.size)
 replace pr := pr.kept hb1
 replace hB := hB.below hb1
 replace oS := own_below oS hb1
 clear hb1
 obtain ⟨ak, ck, rfl, hck, hBk⟩ := Bs.own ho HCB.out
 clear ho
 go_upto_region 5 with fail
 obtain ⟨Z1, hZ1⟩ : ∃ Z, Z = y2.alloc (.cells zb32 5) := ⟨_, rfl⟩
 obtain ⟨Z2, hZ2⟩ : ∃ Z, Z = Z1.alloc (.cells #[.slice ak 32 ck, .slice (some ⟨y2.heap.size, 0, none⟩) 32 32] 22) := ⟨_, rfl⟩
 have b1 : Below y2.heap.size y2 Z1 := by rw [hZ1]; exact (Below.refl _ _).alloc (Nat.le_refl _) _
 have b2 : Below Z1.heap.size Z1 Z2 := by rw [hZ2]; exact (Below.refl _ _).alloc (Nat.le_refl _) _
 have hz : Bs Z1 (some ⟨y2.heap.size, 0, none⟩) 32 32 (List.replicate 32 0) := by rw [hZ1]; exact zb_bs y2
 have hq : Arr Z2 Z1.heap.size 22 [.slice ak 32 ck, .slice (some ⟨y2.heap.size, 0, none⟩) 32 32] := by rw [hZ2]; exact Arr.new _ _ _
 replace hz := hz.below b2
 replace fr := (fr.trans (b1.mono fr.size)).trans (b2.mono (fr.trans (b1.mono fr.size)).size)
 replace pr := (pr.kept b1).kept b2
 replace hB := (hB.below b1).below b2
 replace oS := own_below (own_below oS b1) b2
 replace hBk := (hBk.below b1).below b2
 have hlz : Z1.heap.size = y2.heap.size + 1 := by rw [hZ1]; simp
 clear b1 b2
 go_wp2_with fail
 rw [← hZ1, ← hZ2]
 rw [hlz] at hq
 clear hZ1 hZ2 hlz
 refine (concat2 (y2.heap.size + 1) ak (some ⟨y2.heap.size, 0, none⟩) 32 ck 32 32 C (List.replicate 32 0) _ hq.lt (hq.cell 0) (hq.cell 1) hBk hz (by omega) (by omega)).mono ?_
 rintro e y3 ⟨v, rfl, ho, hb1⟩
 replace fr := fr.trans (hb1.mono fr.size)
 replace pr := pr.kept hb1
 replace hB := hB.below hb1
 replace oS := own_below oS hb1
 clear hb1 hz hq hBk
 obtain ⟨aw, cw, rfl, hcw, hBw⟩ := Bs.own ho (app_byte HCB.out (fun x hx => by have := List.eq_of_mem_replicate hx; omega))
 clear ho
 go_wp2_with fail
 refine (HW.out _ _ _ fr hBw).mono ?_
 rintro e y4 ⟨ac, cc, rfl, oI, hb1⟩
 have iI := In.of oI
 have hl3 := pr.lt
 replace fr := fr.trans (hb1.mono fr.size)
 replace pr := pr.kept hb1
 replace hB := hB.below hb1
 replace oS := own_below oS hb1
 clear hb1 hBw
 have hl := pr.lt
 go_upto_region 6 with fail
 obtain ⟨Z6, hZ6⟩ : ∃ Z, Z = y4.alloc (.cells #[.slice ac 16 cc] 41) := ⟨_, rfl⟩
 have b6 : Below y4.heap.size y4 Z6 := by rw [hZ6]; exact (Below.refl _ _).alloc (Nat.le_refl _) _
 have As : Arr Z6 y4.heap.size 41 [.slice ac 16 cc] := by rw [hZ6]; exact Arr.new _ _ _
 rw [← hZ6]
 replace fr := fr.trans (b6.mono fr.size)
 replace pr := pr.kept b6
 replace oS := own_below oS b6
 replace oI := own_below oI b6
 have hl6 : w.heap.size < y4.heap.size := hl
 obtain ⟨Xs, hXs⟩ : ∃ X, X = y4.heap.size := ⟨_, rfl⟩
 rw [← hXs] at As hl6 ⊢
 clear hZ6 b6 hB hXs hl
 try simp only [Act.put]
 refine tame [kc 29 (.agg ([.slice ac 16 cc]).toArray), kc 30 (.slice (some ⟨g, 0, none⟩) 64 cap), kc 31 (.slice (some ⟨g, 32, none⟩) 32 (cap - 32)), kc 32 (.agg #[.slice ac 16 cc, .slice (some ⟨g, 32, none⟩) 32 (cap - 32)])] 4 (by kernel_rfl) (by kernel_rfl) (by kernel_rfl) (by repeat' first | exact trivial | apply kc_keeps | apply ka_keeps | constructor) 2 (by kernel_rfl) (fun vv1 ll1 hh1 yW b => ?_) (fun vv1 ll1 hh1 yW b F ivh aph => ?_)
 ·skip
  replace fr := fr.trans (b.mono fr.size)
  replace pr := pr.kept b
  replace As := As.kept b
  replace oS := own_below oS b
  replace oI := own_below oI b
  exact ⟨ts (arr_range As) infoSc huS (by kernel_rfl),
   tp (by kernel_rfl),
   tp (by simp only [fillK, putT, List.setIfInBounds_toArray, List.set_cons_zero, List.set_cons_succ]; unfold execOp; go_simp),
   tp (by kernel_rfl), trivial⟩
 obtain ⟨y1, hy⟩ : ∃ z, z = yW := ⟨_, rfl⟩
 rw [← hy] at b F ivh ⊢
 clear hy
 have oq : w.heap.size < Z6.heap.size ∧ Xs < Z6.heap.size ∧ w.heap.size ≤ Z6.heap.size := ⟨pr.lt, As.lt, fr.size⟩
 replace fr := fr.trans (b.mono fr.size)
 replace pr := pr.kept b
 replace As := As.kept b
 replace oS := own_below oS b
 replace oI := own_below oI b
 clear F
 refine st_row (i := 4) (cells := [.slice ac 16 cc, .slice (some ⟨g, 32, none⟩) 32 (cap - 32)]) (by kernel_rfl) rfl rfl rfl rfl pr (by kernel_rfl) (by kernel_rfl) (by simp) infoSecret (by simp [Value.oneCell']) ?_
 replace fr := bel_sc fr w.heap.size ([.slice ac 16 cc, .slice (some ⟨g, 32, none⟩) 32 (cap - 32)]) (by omega)
 replace pr := pr.sc0 ([.slice ac 16 cc, .slice (some ⟨g, 32, none⟩) 32 (cap - 32)]) (by simp)
 replace As := As.sc w.heap.size ([.slice ac 16 cc, .slice (some ⟨g, 32, none⟩) 32 (cap - 32)]) (by omega)
 replace oS : (y1.setCells w.heap.size 0 ([.slice ac 16 cc, .slice (some ⟨g, 32, none⟩) 32 (cap - 32)])).ownsRow y0.heap.size 5 1 (.slice (some ⟨g, 0, none⟩) 64 cap) 64 (U8 S) := own_setCells oS iS (.inl (by omega)) _
 replace oI : (y1.setCells w.heap.size 0 ([.slice ac 16 cc, .slice (some ⟨g, 32, none⟩) 32 (cap - 32)])).ownsRow y3.heap.size 65 1 (.slice ac 16 cc) 16 (I64 K) := own_setCells oI iI (.inl (by omega)) _
 obtain ⟨V2, hVe⟩ : ∃ V, V = y1.setCells w.heap.size 0 ([.slice ac 16 cc, .slice (some ⟨g, 32, none⟩) 32 (cap - 32)]) := ⟨_, rfl⟩
 rw [← hVe] at fr pr As oS oI ⊢
 clear hVe
 refine st_setd (i := 5) (d := 3) (v := Value.bool true) (by kernel_rfl) rfl rfl rfl (by kernel_rfl) ?_
 refine wpAny_done (by kernel_rfl) ?_ _
 simp only [fillK, putT, List.setIfInBounds_toArray, List.set_cons_zero, List.set_cons_succ]
 clear ivh aph b oq
 go_wp2
 exact bodyPost_ret (results_row_tmp (v := .bool true) (cs := [.slice ac 16 cc, .slice (some ⟨g, 32, none⟩) 32 (cap - 32)]) rfl rfl rfl pr Tryz.underlying57 rfl infoSecret) rfl ⟨ac, cc, _, _, rfl, is_of_own oI HKI.out, (bs_of_own oS HSB.out).dropW (m := 32) (by omega), fr⟩

end Go.Proofs.YtihoaakbkffejaaGreatDoor
namespace Go.Proofs.YtihoaakbkffejaaGreatDoor
open Go.RowKit
set_option maxRecDepth 100000

set_option maxHeartbeats 2000000 in
theorem implSecretNo (a : Option Addr) (n c : Nat) (w : World) (hn : n ≠ 32) :
  Calls Tryz.prog 34 #[.slice a n c] w fun e w' => e = .returned (.tuple #[.agg #[.slice none 0 0, .slice none 0 0], .bool false]) ∧ Below w.heap.size w w' := by
 have hne : ((n : Int) != 32) = true := by simp; omega
 have hbs : ∀ w, (Instr.build 57 #[]).run Tryz.prog w = .ok (.agg #[.slice none 0 0, .slice none 0 0]) w := fun w => by kernel_rfl
 have pr : Arr (w.alloc (.cells #[.slice none 0 0, .slice none 0 0] 57)) w.heap.size 57 [.slice none 0 0, .slice none 0 0] := Arr.new _ _ _
 have B : Below w.heap.size w (w.alloc (.cells #[.slice none 0 0, .slice none 0 0] 57)) := (Below.refl _ _).alloc (Nat.le_refl _) _
 go_enter Tryz.func34, Tryz.ntmps34
 go_wp2
 exact bodyPost_ret (results_row_tmp (v := .bool false) (cs := [.slice none 0 0, .slice none 0 0]) rfl rfl rfl pr Tryz.underlying57 rfl infoSecret) rfl ⟨rfl, B⟩

set_option maxHeartbeats 4000000 in
theorem implPubOf (a : Option Addr) (n c : Nat) (bs : List Int) (w : World) (hx : Bs w a n c bs) (hG : VarsOk w) :
  Calls Tryz.prog 9 #[.slice a n c] w fun e w' => ∃ v, e = .returned (.tuple #[v, .bool (pbOk bs)]) ∧ w'.ownsRow w.heap.size 5 1 v (pbL bs).length (U8 (pbL bs)) ∧ Below w.heap.size w w' := by
 haveI := nzP
 have hn : bs.length = n := hx.2.1
 by_cases h : n = 32
 ·subst h
  have hok : pbOk bs = true := by unfold pbOk; exact decide_eq_true hn
  have hL : pbL bs = baseB (val (redO (val (sA bs)))).toNat := by
   have h1 := (lm_256 (sA_len bs) (sA_lm bs)).1
   have e1 : (val (redO (val (sA bs)))).toNat = (val (sA bs)).toNat % oN := by
    rw [val_redO, qO_oN]
    obtain ⟨N, hN⟩ := Int.eq_ofNat_of_zero_le h1
    rw [hN, ← Int.natCast_emod]
    rfl
   unfold pbL; rw [if_pos hok, e1, baseB_red]
  rw [hok, hL, baseB_len]
  have HS : Hid (Calls Tryz.prog 34 #[.slice a 32 c] w fun e w' => ∃ ac cc ab cb, e = .returned (.tuple #[.agg #[.slice ac 16 cc, .slice ab 32 cb], .bool true]) ∧ Is w' ac 16 cc (redO (val (sA bs))) ∧ Bs w' ab 32 cb ((sumOfW bs).drop 32) ∧ Below w.heap.size w w') := implSecret a c bs w hx hG
  obtain ⟨K, hK⟩ : ∃ K, K = redO (val (sA bs)) := ⟨_, rfl⟩
  have HT : Hid (∀ ak ck Z, Is Z ak 16 ck K → Below w.heap.size w Z → Calls Tryz.prog 36 #[.agg #[.slice ak 16 ck]] Z fun e w' => ∃ v, e = .returned v ∧ w'.ownsRow Z.heap.size 5 1 v 32 (U8 (baseB (val K).toNat)) ∧ Below Z.heap.size Z w') := by
   unfold Hid; intro ak ck Z h hZ; exact implBaseTimes ak ck K Z h (by rw [hK]; exact redO_ok _) (hG.kept hZ)
  rw [← hK] at HS ⊢
  clear hK hok hL hG hx
  go_enter Tryz.func9, Tryz.ntmps9
  go_wp2_with fail
  refine HS.out.mono ?_
  rintro e y1 ⟨ac, cc, ab, cb, rfl, hI, _, hb1⟩
  go_upto_region 2 with fail
  obtain ⟨Z, hZ⟩ : ∃ Z, Z = y1.alloc (.cells #[.slice ac 16 cc, .slice ab 32 cb] 57) := ⟨_, rfl⟩
  have b2 : Below y1.heap.size y1 Z := by rw [hZ]; exact (Below.refl _ _).alloc (Nat.le_refl _) _
  have A : Arr Z y1.heap.size 57 [.slice ac 16 cc, .slice ab 32 cb] := by rw [hZ]; exact Arr.new _ _ _
  rw [← hZ]
  clear hZ
  replace hI := hI.below b2
  replace hb1 := hb1.trans (b2.mono hb1.size)
  have c0 : Z.cell? ⟨y1.heap.size, 0, none⟩ = some (.slice ac 16 cc) := A.cell 0
  clear b2 A
  go_wp2_with fail
  refine (HT.out _ _ _ hI hb1).mono ?_
  rintro e y2 ⟨v, rfl, ho, hb2⟩
  go_wp2
  go_ret2
  exact ⟨v, rfl, own_base ho hb1.size, hb1.trans (hb2.mono hb1.size)⟩
 ·have hok : pbOk bs = false := by unfold pbOk; exact decide_eq_false (by omega)
  have hL : pbL bs = [] := by unfold pbL; rw [if_neg (by simp [hok])]
  rw [hok, hL]
  have HS : Hid (Calls Tryz.prog 34 #[.slice a n c] w fun e w' => e = .returned (.tuple #[.agg #[.slice none 0 0, .slice none 0 0], .bool false]) ∧ Below w.heap.size w w') := implSecretNo a n c w h
  go_enter Tryz.func9, Tryz.ntmps9
  go_wp2_with fail
  refine HS.out.mono ?_
  rintro e y1 ⟨rfl, hb1⟩
  go_wp2
  go_ret2
  exact ⟨_, rfl, World.ownsRow_nil _ _ _ _, hb1.trans ((Below.refl _ _).alloc (by exact hb1.size) _)⟩
end Go.Proofs.YtihoaakbkffejaaGreatDoor
namespace Go.Proofs.YtihoaakbkffejaaGreatDoor
open Go.RowKit

set_option maxHeartbeats 2000000 in
theorem concat3 (g : Nat) (a a' a'' : Option Addr) (n c n' c' n'' c'' : Nat) (xs ys zs : List Int) (w : World) (hg : g < w.heap.size)
    (h0 : w.cell? ⟨g, 0, none⟩ = some (.slice a n c)) (h1 : w.cell? ⟨g, 1, none⟩ = some (.slice a' n' c')) (h2 : w.cell? ⟨g, 2, none⟩ = some (.slice a'' n'' c'')) (h : Bs w a n c xs) (h' : Bs w a' n' c' ys) (h'' : Bs w a'' n'' c'' zs) (hn : n ≤ 1048576) (hn' : n' ≤ 1048576) (hn'' : n'' ≤ 1048576) :
    Calls Tryz.prog 39 #[.slice (some ⟨g, 0, none⟩) 3 3] w fun e w' => ∃ v, e = .returned v ∧ w'.ownsRow w.heap.size 5 1 v (n + n' + n'') (U8 (xs ++ ys ++ zs)) ∧ Below w.heap.size w w' := by
  go_enter Tryz.func39, Tryz.ntmps39
  go_wp2
  refine wp_loop_rounds 4 ?_
  rw [rounds_succ]
  go_wp2
  rw [rounds_succ]
  go_wp2
  rw [rounds_succ]
  go_wp2
  rw [rounds_succ]
  go_wp2_with fail
  have eN : ((n : Int) + (n' : Int) + (n'' : Int)) = ((n + n' + n'' : Nat) : Int) := by omega
  rw [eN]
  refine (growNil (n + n' + n'') w (by omega)).mono ?_
  rintro e w1 ⟨v1, rfl, hown1, b1⟩
  have q0 : w1.cell? ⟨g, 0, none⟩ = some (.slice a n c) := (b1.cell (p := ⟨g, 0, none⟩) hg).trans h0
  have q1 : w1.cell? ⟨g, 1, none⟩ = some (.slice a' n' c') := (b1.cell (p := ⟨g, 1, none⟩) hg).trans h1
  have q2 : w1.cell? ⟨g, 2, none⟩ = some (.slice a'' n'' c'') := (b1.cell (p := ⟨g, 2, none⟩) hg).trans h2
  have s1 := b1.size
  have hx1 := h.below b1
  clear h0 h1 h2 eN
  go_wp2
  refine wp_loop_rounds 4 ?_
  rw [rounds_succ]
  go_wp2_with (at_builtin; refine wpl_append_bs rfl _ _ rfl w.heap.size _ 0 [] rfl a n c xs rfl hown1 hx1 ?_ ?_ ?_)
  · omega
  · omega
  intro v2 w2 hown2 hgr2 _
  have b2 : Below w.heap.size w w2 := below_app0 b1 s1 hown1 hgr2
  have q1' : w2.cell? ⟨g, 1, none⟩ = some (.slice a' n' c') := (b2.cell (p := ⟨g, 1, none⟩) hg).trans ((b1.cell (p := ⟨g, 1, none⟩) hg).symm.trans q1)
  have q2' : w2.cell? ⟨g, 2, none⟩ = some (.slice a'' n'' c'') := (b2.cell (p := ⟨g, 2, none⟩) hg).trans ((b1.cell (p := ⟨g, 2, none⟩) hg).symm.trans q2)
  have s2 := b2.size
  have hy2 := h'.below b2
  clear hgr2 hown1 b1 q0 q1 q2 s1 hx1 h h'
  go_wp2
  rw [rounds_succ]
  go_wp2_with (at_builtin; refine wpl_append_bs rfl _ _ rfl w.heap.size _ n xs rfl a' n' c' ys rfl hown2 hy2 ?_ ?_ ?_)
  · omega
  · omega
  intro v3 w3 hown3 hgr3 _
  have b3 : Below w.heap.size w w3 := below_app0 b2 s2 hown2 hgr3
  have q3 : w3.cell? ⟨g, 2, none⟩ = some (.slice a'' n'' c'') := (b3.cell (p := ⟨g, 2, none⟩) hg).trans ((b2.cell (p := ⟨g, 2, none⟩) hg).symm.trans q2')
  have s3 := b3.size
  have hz3 := h''.below b3
  replace hown3 : w3.ownsRow w.heap.size 5 1 v3 (n + n') (U8 (xs ++ ys)) := by simpa [U8] using hown3
  clear hgr3 hown2 b2 q1' q2' s2 hy2
  go_wp2
  rw [rounds_succ]
  go_wp2_with (at_builtin; refine wpl_append_bs rfl _ _ rfl w.heap.size _ (n + n') (xs ++ ys) rfl a'' n'' c'' zs rfl hown3 hz3 ?_ ?_ ?_)
  · omega
  · omega
  intro v4 w4 hown4 hgr4 _
  have b4 : Below w.heap.size w w4 := below_app0 b3 s3 hown3 hgr4
  clear hgr4 hown3 b3 q3 s3 hz3
  go_wp2
  rw [rounds_succ]
  go_wp2
  go_ret
  exact ⟨v4, rfl, by simpa [U8] using hown4, b4⟩
end Go.Proofs.YtihoaakbkffejaaGreatDoor
namespace Go.Proofs.YtihoaakbkffejaaGreatDoor
open Go.RowKit
set_option maxRecDepth 100000

set_option maxHeartbeats 4000000 in
theorem msum_walk (g k : Nat) (T : List Int) (N : Nat) (w : World) (hl : T.length = N) (hb : ∀ x ∈ T, 0 ≤ x ∧ x < 256) (hn : N ≤ 20000) (hG : VarsOk w)
  (HC : Hid (∀ Z, Below w.heap.size w Z → Calls Tryz.prog 39 #[.slice (some ⟨g, 0, none⟩) k k] Z fun e w' => ∃ v, e = .returned v ∧ w'.ownsRow Z.heap.size 5 1 v N (U8 T) ∧ Below Z.heap.size Z w')) :
  Calls Tryz.prog 35 #[.slice (some ⟨g, 0, none⟩) k k] w fun e w' => ∃ a' c', e = .returned (.agg #[.slice a' 16 c']) ∧ w'.ownsRow w.heap.size 65 1 (.slice a' 16 c') 16 (I64 (mS T)) ∧ Below w.heap.size w w' := by
 have HH : Hid (∀ a c Z, Bs Z a N c T → Below w.heap.size w Z → Calls Tryz.prog 18 #[.slice a N c] Z fun e w' => ∃ a' c', e = .returned (.slice a' 64 c') ∧ Bs w' a' 64 c' (sumOfW T) ∧ Below Z.heap.size Z w') := by
  unfold Hid; intro a c Z h hZ
  refine (implSha512 a N c T Z h (hG.kept hZ).T (hG.kept hZ).F).mono ?_
  rintro e z ⟨v, rfl, ho, hb⟩
  have e1 : s512 T = sumOfW T := by unfold s512; rw [if_pos (by omega)]
  rw [e1, sumOfW_len] at ho
  obtain ⟨a', c', rfl, _, hB⟩ := Bs.own ho (sumOfW_byte _)
  exact ⟨a', c', rfl, hB, hb⟩
 have HW : Hid (∀ a c Z, Bs Z a 64 c (sumOfW T) → Below w.heap.size w Z → Calls Tryz.prog 17 #[.slice a 64 c] Z fun e w' => ∃ a' c', e = .returned (.tuple #[.agg #[.slice a' 16 c'], .bool true]) ∧ w'.ownsRow Z.heap.size 65 1 (.slice a' 16 c') 16 (I64 (mS T)) ∧ Below Z.heap.size Z w') := by
  unfold Hid; intro a c Z h hZ
  refine (implScWide a 64 c _ Z h (hG.kept hZ).O).mono ?_
  rintro e z ⟨v, rfl, ⟨a', c', rfl, oo⟩, hb⟩
  have e1 : wdOk (sumOfW T) = true := by unfold wdOk; exact decide_eq_true (sumOfW_len _)
  have e2 : wdF (sumOfW T) = mS T := by unfold wdF; rw [if_pos e1]; rfl
  have e3 : (mS T).length = 16 := redO_len _
  rw [e2, e3] at oo ⊢
  rw [e1]
  exact ⟨a', c', rfl, oo, hb⟩
 obtain ⟨M, hM⟩ : ∃ M, M = mS T := ⟨_, rfl⟩
 rw [← hM] at HW ⊢
 have HB : Hid _ := hb
 obtain ⟨W, hW⟩ : ∃ W, W = w.alloc (.cells #[.slice none 0 0] 41) := ⟨_, rfl⟩
 have pr : Arr W w.heap.size 41 [.slice none 0 0] := by rw [hW]; exact Arr.new _ _ _
 have fr : Below w.heap.size w W := by rw [hW]; exact (Below.refl _ _).alloc (Nat.le_refl _) _
 clear hM hG hb hl
 go_enter Tryz.func35, Tryz.ntmps35
 go_upto_region 1 with fail
 rw [← hW]
 clear hW
 go_wp2_with fail
 refine (HC.out _ fr).mono ?_
 rintro e y1 ⟨v, rfl, ho, hb1⟩
 obtain ⟨a1, c1, rfl, _, hB⟩ := Bs.own ho HB.out
 replace fr := fr.trans (hb1.mono fr.size)
 replace pr := pr.kept hb1
 clear hb1 ho
 go_wp2_with fail
 refine (HH.out _ _ _ hB fr).mono ?_
 rintro e y2 ⟨a2, c2, rfl, hB2, hb1⟩
 replace fr := fr.trans (hb1.mono fr.size)
 replace pr := pr.kept hb1
 clear hb1 hB
 have hl := pr.lt
 go_wp2_with fail
 refine (HW.out _ _ _ hB2 fr).mono ?_
 rintro e y3 ⟨a3, c3, rfl, oo, hb1⟩
 replace fr := fr.trans (hb1.mono fr.size)
 replace pr := pr.kept hb1
 have io := In.of oo
 clear hb1 hB2
 go_upto_region 2 with fail
 obtain ⟨Z, hZ⟩ : ∃ Z, Z = y3.alloc (.cells #[.slice a3 16 c3] 41) := ⟨_, rfl⟩
 have b6 : Below y3.heap.size y3 Z := by rw [hZ]; exact (Below.refl _ _).alloc (Nat.le_refl _) _
 have As : Arr Z y3.heap.size 41 [.slice a3 16 c3] := by rw [hZ]; exact Arr.new _ _ _
 rw [← hZ]
 clear hZ
 replace fr := fr.trans (b6.mono fr.size)
 replace pr := pr.kept b6
 replace oo := own_below oo b6
 have c0 : Z.cell? ⟨y3.heap.size, 0, none⟩ = some (.slice a3 16 c3) := As.cell 0
 have d0 : Z.cell? ⟨w.heap.size, 0, none⟩ = some (.slice none 0 0) := pr.cell 0
 have hf := pr.frozen 0
 have pr2 := pr.set 0 (.slice a3 16 c3)
 have fr2 := fr.setCell (p := ⟨w.heap.size, 0, none⟩) (Nat.le_refl _) (.slice a3 16 c3)
 have oo2 := own_other' oo ⟨w.heap.size, 0, none⟩ (.slice a3 16 c3) (by exact hl)
 clear b6 As
 go_wp2
 exact bodyPost_ret (results_cell_row rfl _ _ w.heap.size 41 #[.slice a3 16 c3] (0, 0) _ rfl pr2 Tryz.underlying41 rfl infoSc) rfl ⟨a3, c3, rfl, own_base oo2 (Nat.le_of_lt hl), fr2⟩

set_option maxHeartbeats 4000000 in
theorem implMSum2 (g : Nat) (a : Option Addr) (n1 c1 : Nat) (xs : List Int) (b : Option Addr) (n2 c2 : Nat) (ys : List Int) (w : World) (hg : g < w.heap.size) (q0 : w.cell? ⟨g, 0, none⟩ = some (.slice a n1 c1)) (q1 : w.cell? ⟨g, 1, none⟩ = some (.slice b n2 c2)) (h0 : Bs w a n1 c1 xs) (h1 : Bs w b n2 c2 ys) (hn : n1 + n2 ≤ 20000) (hG : VarsOk w) :
  Calls Tryz.prog 35 #[.slice (some ⟨g, 0, none⟩) 2 2] w fun e w' => ∃ a' c', e = .returned (.agg #[.slice a' 16 c']) ∧ w'.ownsRow w.heap.size 65 1 (.slice a' 16 c') 16 (I64 (mS (xs ++ ys))) ∧ Below w.heap.size w w' := by
 have HC : Hid (∀ Z, Below w.heap.size w Z → Calls Tryz.prog 39 #[.slice (some ⟨g, 0, none⟩) 2 2] Z fun e w' => ∃ v, e = .returned v ∧ w'.ownsRow Z.heap.size 5 1 v (n1 + n2) (U8 (xs ++ ys)) ∧ Below Z.heap.size Z w') := by
  unfold Hid; intro Z hZ; exact concat2 g a b n1 c1 n2 c2 xs ys Z (Nat.lt_of_lt_of_le hg hZ.size) ((hZ.cell (p := ⟨g, 0, none⟩) hg).trans q0) ((hZ.cell (p := ⟨g, 1, none⟩) hg).trans q1) (h0.below hZ) (h1.below hZ) (by omega) (by omega)
 have hb : ∀ x ∈ xs ++ ys, 0 ≤ x ∧ x < 256 := (app_byte h0.2.2.2.1 h1.2.2.2.1)
 have hl : (xs ++ ys).length = n1 + n2 := by simp only [List.length_append, h0.2.1, h1.2.1]
 obtain ⟨T, hT⟩ : ∃ T, T = xs ++ ys := ⟨_, rfl⟩
 obtain ⟨N, hN⟩ : ∃ N, N = n1 + n2 := ⟨_, rfl⟩
 rw [← hT, ← hN] at HC
 rw [← hT] at hb ⊢
 rw [← hT, ← hN] at hl
 rw [← hN] at hn
 exact msum_walk g 2 T N w hl hb hn hG HC

set_option maxHeartbeats 4000000 in
theorem implMSum3 (g : Nat) (a : Option Addr) (n1 c1 : Nat) (xs : List Int) (b : Option Addr) (n2 c2 : Nat) (ys : List Int) (d : Option Addr) (n3 c3 : Nat) (zs : List Int) (w : World) (hg : g < w.heap.size) (q0 : w.cell? ⟨g, 0, none⟩ = some (.slice a n1 c1)) (q1 : w.cell? ⟨g, 1, none⟩ = some (.slice b n2 c2)) (q2 : w.cell? ⟨g, 2, none⟩ = some (.slice d n3 c3)) (h0 : Bs w a n1 c1 xs) (h1 : Bs w b n2 c2 ys) (h2 : Bs w d n3 c3 zs) (hn : n1 + n2 + n3 ≤ 20000) (hG : VarsOk w) :
  Calls Tryz.prog 35 #[.slice (some ⟨g, 0, none⟩) 3 3] w fun e w' => ∃ a' c', e = .returned (.agg #[.slice a' 16 c']) ∧ w'.ownsRow w.heap.size 65 1 (.slice a' 16 c') 16 (I64 (mS (xs ++ ys ++ zs))) ∧ Below w.heap.size w w' := by
 have HC : Hid (∀ Z, Below w.heap.size w Z → Calls Tryz.prog 39 #[.slice (some ⟨g, 0, none⟩) 3 3] Z fun e w' => ∃ v, e = .returned v ∧ w'.ownsRow Z.heap.size 5 1 v (n1 + n2 + n3) (U8 (xs ++ ys ++ zs)) ∧ Below Z.heap.size Z w') := by
  unfold Hid; intro Z hZ; exact concat3 g a b d n1 c1 n2 c2 n3 c3 xs ys zs Z (Nat.lt_of_lt_of_le hg hZ.size) ((hZ.cell (p := ⟨g, 0, none⟩) hg).trans q0) ((hZ.cell (p := ⟨g, 1, none⟩) hg).trans q1) ((hZ.cell (p := ⟨g, 2, none⟩) hg).trans q2) (h0.below hZ) (h1.below hZ) (h2.below hZ) (by omega) (by omega) (by omega)
 have hb : ∀ x ∈ xs ++ ys ++ zs, 0 ≤ x ∧ x < 256 := (app_byte (app_byte h0.2.2.2.1 h1.2.2.2.1) h2.2.2.2.1)
 have hl : (xs ++ ys ++ zs).length = n1 + n2 + n3 := by simp only [List.length_append, h0.2.1, h1.2.1, h2.2.1]
 obtain ⟨T, hT⟩ : ∃ T, T = xs ++ ys ++ zs := ⟨_, rfl⟩
 obtain ⟨N, hN⟩ : ∃ N, N = n1 + n2 + n3 := ⟨_, rfl⟩
 rw [← hT, ← hN] at HC
 rw [← hT] at hb ⊢
 rw [← hT, ← hN] at hl
 rw [← hN] at hn
 exact msum_walk g 3 T N w hl hb hn hG HC
end Go.Proofs.YtihoaakbkffejaaGreatDoor
namespace Go.Proofs.YtihoaakbkffejaaGreatDoor
open Go.RowKit
set_option maxRecDepth 100000

end Go.Proofs.YtihoaakbkffejaaGreatDoor
namespace Go.Proofs.YtihoaakbkffejaaGreatDoor
open Go.RowKit
set_option maxRecDepth 100000

end Go.Proofs.YtihoaakbkffejaaGreatDoor
namespace Go.Proofs.YtihoaakbkffejaaGreatDoor
open Go.RowKit
set_option maxRecDepth 100000

/-- The table of a product in 33 parts: its worth, and how great its parts may be. -/
structure Tr (a b t : List Int) (i k : Nat) : Prop where
  len : t.length = 33
  vl : val t = prodAt a b i k
  le : ∀ x ∈ t, 0 ≤ x ∧ x ≤ (16 * (i : Int) + (k : Int)) * 4294836225
theorem Tr.get {a b t : List Int} {i k : Nat} (h : Tr a b t i k) (j : Nat) : 0 ≤ t.getD j 0 ∧ t.getD j 0 ≤ (16 * (i : Int) + (k : Int)) * 4294836225 := by
  by_cases hj : j < t.length
  · have : t.getD j 0 ∈ t := by rw [List.getD_eq_getElem?_getD, List.getElem?_eq_getElem hj]; exact List.getElem_mem _
    exact h.le _ this
  · rw [List.getD_eq_getElem?_getD, List.getElem?_eq_none (by omega)]; simp; omega
theorem Tr.step {a b t : List Int} {i k : Nat} (h : Tr a b t i k) (hi : i < 16) (hk : k < b.length) (hk16 : k < 16) {p : Int} (hp : p = a.getD i 0 * b.getD k 0) (hp0 : 0 ≤ p) (hp1 : p ≤ 4294836225) : Tr a b (t.set (i + k) (t.getD (i + k) 0 + p)) i (k + 1) := by
  have hl := h.len
  have hg := h.get (i + k)
  refine ⟨by simp [hl], ?_, ?_⟩
  · rw [val_set t (i + k) (by omega), h.vl, prodAt_step a b i k hk, hp]
    congr 2
    omega
  · intro x hx
    rcases List.mem_or_eq_of_mem_set hx with h1 | h1
    · have := h.le x h1
      simp only [Int.natCast_add, Int.natCast_one]
      omega
    · subst h1
      simp only [Int.natCast_add, Int.natCast_one]
      omega
theorem Tr.row {a b t : List Int} {i : Nat} (h : Tr a b t i 16) (hb : b.length = 16) (hi : i < a.length) : Tr a b t (i + 1) 0 := by
  refine ⟨h.len, ?_, fun x hx => ?_⟩
  · rw [h.vl, ← prodAt_row a b i hi, hb]
  · have := h.le x hx
    simp only [Int.natCast_add, Int.natCast_one] at this ⊢
    omega
abbrev Z33 : List Int := List.replicate 33 0
theorem Tr.zero (a b : List Int) : Tr a b Z33 0 0 := by
  refine ⟨rfl, ?_, ?_⟩
  · have : val Z33 = 0 := by decide
    rw [this]; simp [prodAt, val]
  · intro x hx
    have : x = 0 := by simpa using List.eq_of_mem_replicate hx
    omega
end Go.Proofs.YtihoaakbkffejaaGreatDoor
namespace Go.Proofs.YtihoaakbkffejaaGreatDoor
open Go.RowKit
set_option maxRecDepth 100000

/-- The two halves of a signature. -/
def sgR (seed msg : List Int) : List Int := mS ((sumOfW seed).drop 32 ++ msg)
def sgF (seed msg : List Int) : List Int := baseB (val (sgR seed msg)).toNat
def sgK (seed msg : List Int) : List Int := mS (sgF seed msg ++ baseB (val (sA seed)).toNat ++ msg)
def sgS (seed msg : List Int) : List Int := redO (val (sgR seed msg) + val (redO (val (sgK seed msg) * val (redO (val (sA seed))))))
def sgB (seed msg : List Int) : List Int := sgF seed msg ++ btL (sgS seed msg)
theorem mS_ok (xs : List Int) : scOk (mS xs) = true := redO_ok _
theorem sgB_len (seed msg : List Int) : (sgB seed msg).length = 64 := by
 unfold sgB sgF sgS
 rw [List.length_append, baseB_len, btL_len, redO_len]
theorem sgB_byte (seed msg : List Int) : ∀ x ∈ sgB seed msg, 0 ≤ x ∧ x < 256 := app_byte (baseB_byte _) (btL_byte (redO_lm _))
def snOk (seed msg : List Int) : Bool := decide (seed.length = 32) && decide (msg.length ≤ 2000)
def snL (seed msg : List Int) : List Int := if snOk seed msg = true then sgB seed msg else []
theorem snL_byte (seed msg : List Int) : ∀ x ∈ snL seed msg, 0 ≤ x ∧ x < 256 := by
 unfold snL; split
 ·exact sgB_byte _ _
 ·intro x hx; cases hx
end Go.Proofs.YtihoaakbkffejaaGreatDoor
namespace Go.Proofs.YtihoaakbkffejaaGreatDoor
open Go.RowKit
set_option maxRecDepth 100000

theorem str_eq {xs ys : List Int} (hx : ∀ x ∈ xs, 0 ≤ x ∧ x < 256) (hy : ∀ x ∈ ys, 0 ≤ x ∧ x < 256) : ((strOfNums xs).toList == (strOfNums ys).toList) = decide (xs = ys) := by
  have e : ∀ l : List Int, (strOfNums l).toList = l.map (fun n => UInt8.ofNat n.toNat) := fun l => by
    unfold strOfNums
    exact ByteArray.toList_mk _
  have back : ∀ l : List Int, (∀ x ∈ l, 0 ≤ x ∧ x < 256) → (l.map (fun n => UInt8.ofNat n.toNat)).map (fun u => (u.toNat : Int)) = l := by
    intro l hl
    rw [List.map_map]
    have : l.map ((fun u : UInt8 => (u.toNat : Int)) ∘ fun n : Int => UInt8.ofNat n.toNat) = l.map id := List.map_congr_left fun n hn => by
      have := hl n hn
      simp only [Function.comp, id]
      rw [UInt8.toNat_ofNat']
      omega
    rw [this, List.map_id]
  rw [e, e]
  by_cases h : xs = ys
  · subst h; simp
  · have h9 : xs.map (fun n => UInt8.ofNat n.toNat) ≠ ys.map (fun n => UInt8.ofNat n.toNat) := fun q => h (by rw [← back xs hx, ← back ys hy, q])
    rw [decide_eq_false h]
    exact beq_eq_false_iff_ne.2 h9
theorem bs_conv {w : World} {b o n c : Nat} {xs : List Int} (h : Bs w (some ⟨b, o, none⟩) n c xs) : (convert 22 9 (.slice (some ⟨b, o, none⟩) n c)).run Tryz.prog w = .ok (.string (strOfNums xs)) w := by
  obtain ⟨_, hl, _, _, hx⟩ := h
  refine run_convert_bytes_arg w 22 5 Tryz.underlying22 Tryz.underlying5 b o n c xs hl (fun i hi => ?_) 9 Tryz.underlying9
  rcases hx with hx | ⟨b', o', he, _, hcell⟩
  · omega
  · cases he
    exact hcell i hi

set_option maxHeartbeats 1000000 in
theorem equalB (b o n c b' o' m d : Nat) (xs ys : List Int) (w : World) (h : Bs w (some ⟨b, o, none⟩) n c xs) (k : Bs w (some ⟨b', o', none⟩) m d ys) :
    Calls Tryz.prog 88 #[.slice (some ⟨b, o, none⟩) n c, .slice (some ⟨b', o', none⟩) m d] w fun e w' => e = .returned (.bool (decide (xs = ys))) ∧ w' = w := by
  have h1 := bs_conv h
  have h2 := bs_conv k
  have e1 := str_eq h.2.2.2.1 k.2.2.2.1
  obtain ⟨s, hs⟩ : ∃ s, s = strOfNums xs := ⟨_, rfl⟩
  obtain ⟨t, ht⟩ : ∃ t, t = strOfNums ys := ⟨_, rfl⟩
  rw [← hs] at h1 e1
  rw [← ht] at h2 e1
  rw [← e1]
  clear e1 hs ht h k
  go_enter Tryz.func88, Tryz.ntmps88
  go_wp2
  go_ret
  exact ⟨rfl, rfl⟩
end Go.Proofs.YtihoaakbkffejaaGreatDoor
namespace Go.Proofs.YtihoaakbkffejaaGreatDoor
open Go.RowKit
set_option maxRecDepth 100000

/-- The exponent of a root, in parts. -/
def E8 : List Int := [65534, 65535, 65535, 65535, 65535, 65535, 65535, 65535, 65535, 65535, 65535, 65535, 65535, 65535, 65535, 4095]
theorem E8_val : (val E8).toNat = eRt := by decide
theorem QL_val : val QL = (qN : Int) := by decide

end Go.Proofs.YtihoaakbkffejaaGreatDoor
namespace Go.Proofs.YtihoaakbkffejaaGreatDoor
open Go.RowKit
set_option maxRecDepth 100000

/-- The arrays of l4root: the number, the result's cell, the root so far. -/
structure RP (w W : World) (E : Nat) (a r : List Int) : Prop where
  e2 : E2 w W a
  pr : Arr W E 80 (I64 r)
  lt : w.heap.size + 1 < E
theorem RP.go {w A B : World} {E : Nat} {a r : List Int} (h : RP w A E a r) (hb : Below A.heap.size A B) : RP w B E a r := ⟨h.e2.go hb, h.pr.kept hb, h.lt⟩
theorem RP.put {w W : World} {E : Nat} {a r : List Int} (h : RP w W E a r) (s : List Int) (hl : (I64 r).length = (I64 s).length) : RP w (W.setCells E 0 (I64 s)) E a s := by
  have := h.lt
  exact ⟨⟨setCells_below (by omega) _ _ h.e2.fr, Arr.setCellsO (by omega) _ _ h.e2.pa, Arr.setCellsO (by omega) _ _ h.e2.pr⟩, Arr.setCells0 h.pr hl, h.lt⟩
theorem E2.fresh {w W : World} {a : List Int} (h : E2 w W a) : RP w (W.alloc (.cells (I64 Z16).toArray 80)) W.heap.size a Z16 := by
  have h1 := h.fr.size
  exact ⟨⟨h.fr.alloc h1 _, h.pa.alloc _, h.pr.alloc _⟩, Arr.new _ _ _, h.pr.lt⟩
theorem RP.both {w W : World} {E : Nat} {a r : List Int} (h : RP w W E a r) : W.rangeAt E 0 (I64 r) ∧ W.rangeAt w.heap.size 0 (I64 a) := ⟨arr_range h.pr, arr_range h.e2.pa⟩

/-- The first power; the square; the one of two; the even one. -/
def rt1 (a : List Int) : List Int := red (val a ^ eRt)
def sqF (r : List Int) : List Int := red (val r * val r)
def rt2 (a : List Int) : List Int := if sqF (rt1 a) = a then rt1 a else red (val (rt1 a) * val QL)
def rtOk (a : List Int) : Bool := decide (sqF (rt2 a) = a)
def rt3 (a : List Int) : List Int := if (rt2 a).getD 0 0 % 2 = 1 then tk16 PL (rt2 a) else rt2 a
def rtR (a : List Int) : List Int := if rtOk a = true then rt3 a else Z16

theorem rt2_len (a : List Int) : (rt2 a).length = 16 := by unfold rt2; split <;> exact red_len _
theorem rt2_lm (a : List Int) : Lm (rt2 a) := by unfold rt2; split <;> exact red_lm _
end Go.Proofs.YtihoaakbkffejaaGreatDoor
namespace Go.Proofs.YtihoaakbkffejaaGreatDoor
open Go.RowKit
set_option maxRecDepth 100000

end Go.Proofs.YtihoaakbkffejaaGreatDoor
namespace Go.Proofs.YtihoaakbkffejaaGreatDoor
open Go.RowKit
set_option maxRecDepth 100000
set_option maxHeartbeats 4000000

/-- The bytes without their highest bit; the number that they make; the bit. -/
def lowB (bs : List Int) : List Int := bs.set 31 (bs.getD 31 0 % 128)
def yR (bs : List Int) : List Int := rdL (lowB bs)
def odd6 (bs : List Int) : Int := bs.getD 31 0 / 128
/-- What x times x is, beside y. -/
def ovr (y : List Int) : List Int := red (val (red (val y * val y)) - val (lim 16 1))
def und (y : List Int) : List Int := red (val (red (val DL * val (red (val y * val y)))) + val (lim 16 1))
def sqx (y : List Int) : List Int := red (val (ovr y) * val (invF (und y)))
/-- x, odd or even, and whether there is one. -/
def xR (y : List Int) (o : Int) : List Int := if o = 1 then tk16 PL (rt3 (sqx y)) else rt3 (sqx y)
def okR (y : List Int) (o : Int) : Bool := rtOk (sqx y) && !(decide (rt3 (sqx y) = Z16) && decide (o = 1))
def rdOk6 (bs : List Int) : Bool := decide (bs.length = 32) && decide (val (yR bs) < P25519) && okR (yR bs) (odd6 bs)
def rdX6 (bs : List Int) : List Int := if rdOk6 bs = true then xR (yR bs) (odd6 bs) else []
def rdY6 (bs : List Int) : List Int := if rdOk6 bs = true then yR bs else []
theorem lowB_byte {bs : List Int} (h : ∀ x ∈ bs, 0 ≤ x ∧ x < 256) : ∀ x ∈ lowB bs, 0 ≤ x ∧ x < 256 := by
  intro x hx
  rcases List.mem_or_eq_of_mem_set hx with h1 | rfl
  · exact h x h1
  · have := gD_u8 h 31
    omega
theorem yR_len (bs : List Int) : (yR bs).length = 16 := rdL_len _
theorem yR_lm {bs : List Int} (h : ∀ x ∈ bs, 0 ≤ x ∧ x < 256) : Lm (yR bs) := rdL_lm (lowB_byte h)
theorem yR_ok {bs : List Int} (h : ∀ x ∈ bs, 0 ≤ x ∧ x < 256) (hp : val (yR bs) < P25519) : feOk (yR bs) = true := (feOk_iff _).2 ⟨yR_len bs, yR_lm h, hp⟩
theorem odd6_two {bs : List Int} (h : ∀ x ∈ bs, 0 ≤ x ∧ x < 256) : odd6 bs = 0 ∨ odd6 bs = 1 := by
  have := gD_u8 h 31
  unfold odd6
  omega
theorem low_val {l : List Int} (h : l.length = 16) : val l % 2 = l.getD 0 0 % 2 := by
  match l, h with
  | x :: t, _ =>
    show (x + 65536 * val t) % 2 = x % 2
    omega
theorem PL_odd : P25519 % 2 = 1 := by decide
theorem rt2_ok6 (a : List Int) : feOk (rt2 a) = true := by
  rw [feOk_iff]
  refine ⟨rt2_len a, rt2_lm a, ?_⟩
  unfold rt2
  split
  · unfold rt1; rw [val_red]; exact (red_lt _).2
  · rw [val_red]; exact (red_lt _).2
/-- The root is a number of the field, and even. -/
theorem rt3_fe (a : List Int) : feOk (rt3 a) = true ∧ val (rt3 a) % 2 = 0 := by
  obtain ⟨h1, h2, h3⟩ := (feOk_iff _).1 (rt2_ok6 a)
  have h0 := val_nonneg (fun x hx => (h2 x hx).1)
  have hl := low_val h1
  have hp := PL_odd
  unfold rt3
  split
  · rename_i ho
    have hv : val (tk16 PL (rt2 a)) = P25519 - val (rt2 a) := by
      rw [tk16_lim PL_len h1, PL_val, val_lim, p256]
      exact Int.emod_eq_of_lt (by omega) (by unfold P25519; omega)
    refine ⟨(feOk_iff _).2 ⟨by rw [tk16_lim PL_len h1]; exact lim_len _ _, by rw [tk16_lim PL_len h1]; exact lim_lm _ _, by rw [hv]; omega⟩, by rw [hv]; omega⟩
  · rename_i ho
    exact ⟨rt2_ok6 a, by omega⟩
theorem z16_of {l : List Int} (h : feOk l = true) : l = Z16 ↔ val l = 0 := by
  constructor
  · rintro rfl; decide
  · intro hv
    obtain ⟨h1, h2, _⟩ := (feOk_iff l).1 h
    have e := lim_val l h2
    rw [h1, hv] at e
    rw [← e]; decide
theorem xR_ok {y : List Int} {o : Int} (h : okR y o = true) : feOk (xR y o) = true ∧ (xR y o = if o = 1 then red (val (lim 16 0) - val (rt3 (sqx y))) else rt3 (sqx y)) ∧ (o = 0 ∨ o = 1 → val (xR y o) % 2 = o) := by
  obtain ⟨h1, h2⟩ := rt3_fe (sqx y)
  obtain ⟨l1, l2, l3⟩ := (feOk_iff _).1 h1
  have h0 := val_nonneg (fun x hx => (l2 x hx).1)
  have hp := PL_odd
  unfold xR
  by_cases ho : o = 1
  · rw [if_pos ho, if_pos ho]
    have hz : val (rt3 (sqx y)) ≠ 0 := by
      intro e
      have := (z16_of h1).2 e
      unfold okR at h
      simp [this, ho] at h
    have hv : val (tk16 PL (rt3 (sqx y))) = P25519 - val (rt3 (sqx y)) := by
      rw [tk16_lim PL_len l1, PL_val, val_lim, p256]
      exact Int.emod_eq_of_lt (by omega) (by unfold P25519; omega)
    have hz0 : val (lim 16 0) = 0 := by decide
    refine ⟨(feOk_iff _).2 ⟨by rw [tk16_lim PL_len l1]; exact lim_len _ _, by rw [tk16_lim PL_len l1]; exact lim_lm _ _, by rw [hv]; omega⟩, ?_, fun _ => by rw [hv]; omega⟩
    rw [tk16_lim PL_len l1, PL_val]
    unfold red
    congr 1
    rw [hz0]
    have e : (0 - val (rt3 (sqx y))) % P25519 = (P25519 - val (rt3 (sqx y))) % P25519 := by
      have := Int.add_emod_right (0 - val (rt3 (sqx y))) P25519
      rw [← this]
      congr 1
      omega
    rw [e]
    exact (Int.emod_eq_of_lt (by omega) (by omega)).symm
  · rw [if_neg ho, if_neg ho]
    exact ⟨h1, rfl, fun h => by omega⟩
theorem rdOk6_parts {bs : List Int} (h : rdOk6 bs = true) : bs.length = 32 ∧ val (yR bs) < P25519 ∧ okR (yR bs) (odd6 bs) = true := by
  unfold rdOk6 at h
  simp only [Bool.and_eq_true, decide_eq_true_eq] at h
  exact ⟨h.1.1, h.1.2, h.2⟩
end Go.Proofs.YtihoaakbkffejaaGreatDoor

/-
  What is proved here: contracts of the program's FeBytes, FeRead, FeInv, FeRoot; where the program's variables hold the prime and a root of the opposite of one.
-/
import Derived.Test.YtpchdfdeomhakaaDoorZJk
import Derived.Test.YtpchdfdeomhakaaDoorZJh
import Derived.BigFrame
namespace Go.Proofs.YtpchdfdeomhakaaDoor
open Go.RowKit
set_option maxRecDepth 100000

theorem wpList_load_rowW {P : Program} {ops : Array Oper} {rest : List Oper} {o : Oper} {a : Act} {w : World} {Q : Exit → Act → World → Prop} (hw : Region.wanted o (yielded ops a.tmps) = true) (ty : TypeId) (x : Operand) (ho : o.op = .load ty x)
    (g : Nat) (hx : a.eval x = .pointer (some ⟨g, 0, none⟩)) (t : TypeId) (cs : Array Value) (fr : Nat × Nat) (d : TypeDesc) (hg : w.heap[g]? = some (.cells cs t fr))
    (hu : P.underlying ty = some d) (hd : (match d with | .struct _ | .array _ _ => true | _ => false) = true) (hi : (P.info? ty).map (·.size) = some cs.size)
    (h : wpList P ops Q rest (a.put o.dst (.agg cs)) w) : wpList P ops Q (o :: rest) a w :=
  BigFrame.wpList_want hw fun _ hK => wp_load_row ty x ho g hx t cs fr d hg hu hd hi (hK _ _ h)

/-- The limbs are laid into a new cell. -/
theorem laid_new (w1 : World) (L : List Int) : Below w1.heap.size w1 ((w1.alloc (.cells #[.int .i64 0, .int .i64 0, .int .i64 0, .int .i64 0, .int .i64 0, .int .i64 0, .int .i64 0, .int .i64 0, .int .i64 0, .int .i64 0, .int .i64 0, .int .i64 0, .int .i64 0, .int .i64 0, .int .i64 0, .int .i64 0] 57)).setRow w1.heap.size (I64 L).toArray) ∧ Arr ((w1.alloc (.cells #[.int .i64 0, .int .i64 0, .int .i64 0, .int .i64 0, .int .i64 0, .int .i64 0, .int .i64 0, .int .i64 0, .int .i64 0, .int .i64 0, .int .i64 0, .int .i64 0, .int .i64 0, .int .i64 0, .int .i64 0, .int .i64 0] 57)).setRow w1.heap.size (I64 L).toArray) w1.heap.size 57 (I64 L) ∧ Arr (w1.alloc (.cells #[.int .i64 0, .int .i64 0, .int .i64 0, .int .i64 0, .int .i64 0, .int .i64 0, .int .i64 0, .int .i64 0, .int .i64 0, .int .i64 0, .int .i64 0, .int .i64 0, .int .i64 0, .int .i64 0, .int .i64 0, .int .i64 0] 57)) w1.heap.size 57 (I64 Z16) := by
  have q : Arr (w1.alloc (.cells #[.int .i64 0, .int .i64 0, .int .i64 0, .int .i64 0, .int .i64 0, .int .i64 0, .int .i64 0, .int .i64 0, .int .i64 0, .int .i64 0, .int .i64 0, .int .i64 0, .int .i64 0, .int .i64 0, .int .i64 0, .int .i64 0] 57)) w1.heap.size 57 (I64 Z16) := Arr.new w1 (I64 Z16) _
  exact ⟨setRow_below ((Below.refl _ _).alloc (Nat.le_refl _) _) _ _ (Nat.le_refl _), q.row _, q⟩

set_option maxHeartbeats 2000000 in
theorem implFeBytes (a : Option Addr) (n c : Nat) (xs : List Int) (w : World) (hx : Is w a n c xs) (hV : Vr w 0 (I64 PL)) :
    Calls Tryd.prog 29 #[.agg #[.slice a n c]] w fun e w' => ∃ v, e = .returned v ∧ w'.ownsRow w.heap.size 5 1 v (btF xs).length (U8 (btF xs)) ∧ Below w.heap.size w w' := by
  obtain ⟨W, hW⟩ : ∃ W, W = w.alloc (.cells #[.slice a n c] 25) := ⟨_, rfl⟩
  have gB : Below w.heap.size w W := by rw [hW]; exact (Below.refl _ _).alloc (Nat.le_refl _) _
  have HO := implOpen a n c xs W (hx.below gB) (hV.kept gB)
  have hLl := lmL_len xs
  obtain ⟨L, hL⟩ : ∃ L, L = lmL xs := ⟨_, rfl⟩
  obtain ⟨p, hp⟩ : ∃ p, p = feOk xs := ⟨_, rfl⟩
  obtain ⟨T, hT⟩ : ∃ T, T = btF xs := ⟨_, rfl⟩
  have HT0 : Hid (p = false → T = []) := by unfold Hid; intro h; rw [hT]; unfold btF; rw [← hp, h]; rfl
  have HT1 : Hid (p = true → T = btL L ∧ Lm L) := by
    unfold Hid; intro h
    rw [hp] at h
    rw [hT, hL, lmL_of h]
    unfold btF
    rw [h]
    exact ⟨rfl, ((feOk_iff xs).1 h).2.1⟩
  rw [← hL, ← hp] at HO
  rw [← hL] at hLl
  rw [← hT]
  have HO' : Hid (Calls Tryd.prog 56 #[.agg #[.slice a n c]] W fun e w' => e = .returned (.tuple #[.agg (I64 L).toArray, .bool p]) ∧ Below W.heap.size W w') := HO
  have hil : (Tryd.prog.info? 57).map (·.size) = some (I64 L).toArray.size := by simpa [hLl] using infoL
  clear HO hL hp hT hx hV
  go_enter Tryd.func29, Tryd.ntmps29
  go_wp2_with fail
  rw [← hW]
  refine HO'.out.mono ?_
  rintro e w1 ⟨rfl, hb1⟩
  have gB1 := gB.trans (hb1.mono gB.size)
  obtain ⟨bV, pV, q1⟩ := laid_new w1 L
  have gB2 := gB1.trans (bV.mono gB1.size)
  clear hW gB hb1 gB1 bV HO'
  cases p with
  | false =>
    have HE : Hid (T = []) := HT0.out (by simp)
    clear HT0 HT1 pV
    go_wp2_with (refine wpList_store_row rfl 57 _ _ rfl w1.heap.size (I64 L).toArray rfl rfl 57 _ q1 hil (by simp [hLl]) (by simp [Value.oneCell']) ?_)
    go_ret
    exact ⟨_, rfl, by rw [HE.out]; exact World.ownsRow_nil _ _ _ _, gB2⟩
  | true =>
    obtain ⟨hE, hLm⟩ := HT1.out rfl
    have HE : Hid _ := hE
    clear HT0 HT1 hE
    go_wp2_with (first
      | (refine wpList_store_row rfl 57 _ _ rfl w1.heap.size (I64 L).toArray rfl rfl 57 _ q1 hil (by simp [hLl]) (by simp [Value.oneCell']) ?_)
      | (refine wpList_load_row rfl 57 _ rfl w1.heap.size rfl 57 (I64 L).toArray (0, 0) _ pV Tryd.underlying57 rfl hil ?_))
    refine (implBytes L _ hLl hLm).mono ?_
    rintro e w3 ⟨v, rfl, ho, hb3⟩
    have HO : Hid (w3.ownsRow w.heap.size 5 1 v T.length (U8 T)) := by
      unfold Hid
      rw [HE.out, btL_len, hLl]
      exact own_base ho gB2.size
    have gB3 := gB2.trans (hb3.mono gB2.size)
    clear ho hb3 gB2 pV q1
    go_wp2
    go_ret
    exact ⟨_, rfl, HO.out, gB3⟩

theorem rdOk_eq (bs : List Int) : rdOk bs = (rdB bs && decide (val (rdL bs) < P25519)) := rfl

set_option maxHeartbeats 2000000 in
theorem implFeRead (a : Option Addr) (n c : Nat) (bs : List Int) (w : World) (hx : Bs w a n c bs) (hV : Vr w 0 (I64 PL)) :
    Calls Tryd.prog 30 #[.slice a n c] w fun e w' => ∃ v, e = .returned (.tuple #[v, .bool (rdOk bs)]) ∧ FeT 57 w w' v (rdF bs) ∧ Below w.heap.size w w' := by
  obtain ⟨W, hW⟩ : ∃ W, W = w.alloc (.cells #[.slice none 0 0] 25) := ⟨_, rfl⟩
  have EE : F1 w W := by rw [hW]; exact ⟨(Below.refl _ _).alloc (Nat.le_refl _) _, Arr.new _ _ _⟩
  have HO := implLimbsRead a n c bs W (hx.below EE.fr)
  have hVW := hV.kept EE.fr
  have hLl := rdZ_len bs
  have hby := hx.2.2.2.1
  obtain ⟨L, hL⟩ : ∃ L, L = rdZ bs := ⟨_, rfl⟩
  obtain ⟨p, hp⟩ : ∃ p, p = rdB bs := ⟨_, rfl⟩
  obtain ⟨q, hq⟩ : ∃ q, q = decide (val L < P25519) := ⟨_, rfl⟩
  obtain ⟨o, ho⟩ : ∃ o, o = rdOk bs := ⟨_, rfl⟩
  obtain ⟨T, hT⟩ : ∃ T, T = rdF bs := ⟨_, rfl⟩
  have HT0 : Hid (o = false → T = []) := by unfold Hid; intro h; rw [hT]; unfold rdF; rw [← ho, h]; rfl
  have hLR : p = true → L = rdL bs := by intro h; rw [hL]; unfold rdZ; rw [← hp, h]; rfl
  have HT1 : Hid (p = true → o = true → T = L) := by
    unfold Hid; intro h h'
    rw [hT, hLR h]; unfold rdF; rw [← ho, h']; rfl
  have HOp : Hid (p = false → o = false) := by unfold Hid; intro h; rw [ho, rdOk_eq, ← hp, h]; rfl
  have HOq : Hid (p = true → o = q) := by unfold Hid; intro h; rw [ho, rdOk_eq, ← hp, h, hq, hLR h]; rfl
  have HBL : Hid (p = true → ∀ Z, Calls Tryd.prog 67 #[.agg (I64 L).toArray, .agg (I64 PL).toArray] Z fun e w' => e = .returned (.bool q) ∧ Below Z.heap.size Z w') := by
    unfold Hid; intro h Z
    have := implBelow L PL Z (by rw [hL]; exact hLl) PL_len (by rw [hLR h]; exact rdL_lm hby) PL_lm
    rw [PL_val, ← hq] at this
    exact this
  rw [← hL, ← hp] at HO
  rw [← hL] at hLl
  rw [← hT, ← ho]
  have HO' : Hid (Calls Tryd.prog 66 #[.slice a n c] W fun e w' => e = .returned (.tuple #[.agg (I64 L).toArray, .bool p]) ∧ Below W.heap.size W w') := HO
  have hil : (Tryd.prog.info? 57).map (·.size) = some (I64 L).toArray.size := by simpa [hLl] using infoL
  have hip : (Tryd.prog.info? 57).map (·.size) = some (I64 PL).toArray.size := infoL
  clear HO hL hp hT ho hx hV hq hLR hby
  go_enter Tryd.func30, Tryd.ntmps30
  go_wp2_with fail
  rw [← hW]
  refine HO'.out.mono ?_
  rintro e w1 ⟨rfl, hb1⟩
  replace EE := EE.go hb1
  have hV1 := hVW.kept hb1
  obtain ⟨bV, pV, q1⟩ := laid_new w1 L
  replace EE := EE.go bV
  have hV2 := hV1.kept bV
  clear hW hb1 HO' hVW hV1
  have CASE0 : o = false → Hid (T = []) := fun h => HT0.out h
  cases p with
  | false =>
    obtain rfl : o = false := HOp.out rfl
    have HE : Hid (T = []) := HT0.out (by simp)
    have hcr : ((w1.alloc (.cells #[.int .i64 0, .int .i64 0, .int .i64 0, .int .i64 0, .int .i64 0, .int .i64 0, .int .i64 0, .int .i64 0, .int .i64 0, .int .i64 0, .int .i64 0, .int .i64 0, .int .i64 0, .int .i64 0, .int .i64 0, .int .i64 0] 57)).setRow w1.heap.size (I64 L).toArray).cell? ⟨w.heap.size, 0, none⟩ = some (.slice none 0 0) := EE.pr.cell 0
    have hfr := EE.pr.frozen 0
    have HA : Hid _ := EE.pr.set 0 (.slice none 0 0)
    have HB : Hid _ := EE.fr.setCell (p := ⟨w.heap.size, 0, none⟩) (Nat.le_refl _) (.slice none 0 0)
    clear EE HT0 HT1 HOp HOq HBL CASE0 pV bV hV2
    go_wp2_with (refine wpList_store_row rfl 57 _ _ rfl w1.heap.size (I64 L).toArray rfl rfl 57 _ q1 hil (by simp [hLl]) (by simp [Value.oneCell']) ?_)
    exact bodyPost_ret (results_row_tmp (v := .bool false) (cs := [.slice none 0 0]) rfl rfl rfl HA.out Tryd.underlying25 rfl infoFe) rfl ⟨_, rfl, HE.out ▸ feT_nil _ _ _, HB.out⟩
  | true =>
    obtain rfl : o = q := HOq.out rfl
    have HB2 : Hid (∀ Z, Calls Tryd.prog 67 #[.agg (I64 L).toArray, .agg (I64 PL).toArray] Z fun e w' => e = .returned (.bool o) ∧ Below Z.heap.size Z w') := HBL.out rfl
    obtain ⟨gt, gz, hg⟩ := hV2
    clear HOp HOq HBL CASE0 bV
    go_wp2_with (first
      | (refine wpList_store_row rfl 57 _ _ rfl w1.heap.size (I64 L).toArray rfl rfl 57 _ q1 hil (by simp [hLl]) (by simp [Value.oneCell']) ?_)
      | (refine wpList_load_rowW rfl 57 _ rfl w1.heap.size rfl 57 (I64 L).toArray (0, 0) _ pV Tryd.underlying57 rfl hil ?_)
      | (refine wpList_load_rowW rfl 57 _ rfl 0 rfl gt (I64 PL).toArray gz _ hg Tryd.underlying57 rfl hip ?_))
    obtain ⟨V, hVV⟩ : ∃ V, V = (w1.alloc (.cells #[.int .i64 0, .int .i64 0, .int .i64 0, .int .i64 0, .int .i64 0, .int .i64 0, .int .i64 0, .int .i64 0, .int .i64 0, .int .i64 0, .int .i64 0, .int .i64 0, .int .i64 0, .int .i64 0, .int .i64 0, .int .i64 0] 57)).setRow w1.heap.size (I64 L).toArray := ⟨_, rfl⟩
    obtain ⟨E, hE⟩ : ∃ E, E = w1.heap.size := ⟨_, rfl⟩
    rw [← hVV] at EE pV ⊢
    rw [← hE] at pV ⊢
    clear hVV hg q1 hE
    refine (HB2.out _).mono ?_
    rintro e w2 ⟨rfl, hb2⟩
    replace EE := EE.go hb2
    have p2 := pV.kept hb2
    clear hb2 HB2 pV
    cases o with
    | false =>
      have HE : Hid (T = []) := HT0.out (by simp)
      have hcr : w2.cell? ⟨w.heap.size, 0, none⟩ = some (.slice none 0 0) := EE.pr.cell 0
      have hfr := EE.pr.frozen 0
      have HA : Hid _ := EE.pr.set 0 (.slice none 0 0)
      have HB : Hid _ := EE.fr.setCell (p := ⟨w.heap.size, 0, none⟩) (Nat.le_refl _) (.slice none 0 0)
      clear EE HT0 HT1
      go_wp2
      exact bodyPost_ret (results_row_tmp (v := .bool false) (cs := [.slice none 0 0]) rfl rfl rfl HA.out Tryd.underlying25 rfl infoFe) rfl ⟨_, rfl, HE.out ▸ feT_nil _ _ _, HB.out⟩
    | true =>
      have HE : Hid (T = L) := HT1.out (by simp) (by simp)
      clear HT0 HT1
      go_wp2_with (refine wpList_load_row rfl 57 _ rfl E rfl 57 (I64 L).toArray (0, 0) _ p2 Tryd.underlying57 rfl hil ?_)
      refine (implList L _ hLl).mono ?_
      rintro e w4 ⟨a', c', rfl, ho, hb4⟩
      have hlt := EE.pr.lt
      have hsz := EE.fr.size
      replace EE := EE.go hb4
      have HOW : Hid _ := own_base (own_other' ho ⟨w.heap.size, 0, none⟩ (.slice a' 16 c') hlt) hsz
      have hcr : w4.cell? ⟨w.heap.size, 0, none⟩ = some (.slice none 0 0) := EE.pr.cell 0
      have hfr := EE.pr.frozen 0
      have HA : Hid _ := EE.pr.set 0 (.slice a' 16 c')
      have HB : Hid _ := EE.fr.setCell (p := ⟨w.heap.size, 0, none⟩) (Nat.le_refl _) (.slice a' 16 c')
      clear EE ho hb4 hsz hlt p2
      go_wp2
      exact bodyPost_ret (results_row_tmp (v := .bool true) (cs := [.slice a' 16 c']) rfl rfl rfl HA.out Tryd.underlying25 rfl infoFe) rfl ⟨_, rfl, HE.out ▸ feT_16 hLl HOW.out, HB.out⟩

set_option maxHeartbeats 2000000 in
theorem implFeInv (a : Option Addr) (n c : Nat) (xs : List Int) (w : World) (hx : Is w a n c xs) (hV : Vr w 0 (I64 PL)) :
    Calls Tryd.prog 24 #[.agg #[.slice a n c]] w fun e w' => ∃ v, e = .returned (.tuple #[v, .bool (invOk xs)]) ∧ FeT 57 w w' v (invL xs) ∧ Below w.heap.size w w' := by
  have EE : F2 w _ (.slice a n c) := F2.new w (.slice a n c)
  obtain ⟨W, hW⟩ : ∃ W, W = (w.alloc (.cells #[.slice a n c] 25)).alloc (.cells #[.slice none 0 0] 25) := ⟨_, rfl⟩
  rw [← hW] at EE
  have HO := implOpen a n c xs W (hx.below EE.fr) (hV.kept EE.fr)
  have hVW := hV.kept EE.fr
  have hLl := lmL_len xs
  obtain ⟨L, hL⟩ : ∃ L, L = lmL xs := ⟨_, rfl⟩
  obtain ⟨p, hp⟩ : ∃ p, p = feOk xs := ⟨_, rfl⟩
  obtain ⟨o, ho⟩ : ∃ o, o = invOk xs := ⟨_, rfl⟩
  obtain ⟨T, hT⟩ : ∃ T, T = invL xs := ⟨_, rfl⟩
  obtain ⟨z, hz⟩ : ∃ z, z = decide (L = Z16) := ⟨_, rfl⟩
  have hLx : p = true → L = xs := fun h => by rw [hL]; exact lmL_of (by rw [← hp]; exact h)
  have HT0 : Hid (o = false → T = []) := by unfold Hid; intro h; rw [hT]; unfold invL; rw [← ho, h]; rfl
  have HOp : Hid (p = false → o = false) := by unfold Hid; intro h; rw [ho]; unfold invOk; rw [← hp, h]; rfl
  have HOz : Hid (p = true → o = !z) := by unfold Hid; intro h; rw [ho]; unfold invOk; rw [← hp, h, hz, hLx h]; rfl
  have HIN : Hid (p = true → o = true → T.length = 16 ∧ ∀ Z, Vr Z 0 (I64 PL) → Calls Tryd.prog 57 #[.agg (I64 L).toArray] Z fun e w' => e = .returned (.agg (I64 T).toArray) ∧ Below Z.heap.size Z w') := by
    unfold Hid; intro h h'
    have e : T = invF L := by rw [hT, hLx h]; unfold invL; rw [← ho, h']; rfl
    refine ⟨by rw [e]; exact red_len _, fun Z hZ => ?_⟩
    rw [e]
    exact implInverse L Z (by rw [hLx h, ← hp]; exact h) hZ
  have hq : ∀ Z, (Op.equalIn 10000 57 (.agg (I64 L).toArray) (.agg #[.int .i64 0, .int .i64 0, .int .i64 0, .int .i64 0, .int .i64 0, .int .i64 0, .int .i64 0, .int .i64 0, .int .i64 0, .int .i64 0, .int .i64 0, .int .i64 0, .int .i64 0, .int .i64 0, .int .i64 0, .int .i64 0])).run Tryd.prog Z = .ok z Z := by intro Z; rw [hz]; exact run_eqL L Z16 Z (by rw [hL]; exact hLl) rfl
  rw [← hL, ← hp] at HO
  rw [← hL] at hLl
  rw [← hT, ← ho]
  have HO' : Hid (Calls Tryd.prog 56 #[.agg #[.slice a n c]] W fun e w' => e = .returned (.tuple #[.agg (I64 L).toArray, .bool p]) ∧ Below W.heap.size W w') := HO
  have hil : (Tryd.prog.info? 57).map (·.size) = some (I64 L).toArray.size := by simpa [hLl] using infoL
  clear HO hL hp hT ho hx hV hz hLx
  go_enter Tryd.func24, Tryd.ntmps24
  go_wp2_with fail
  rw [← hW]
  refine HO'.out.mono ?_
  rintro e w1 ⟨rfl, hb1⟩
  replace EE := EE.go hb1
  have hV1 := hVW.kept hb1
  obtain ⟨bV, pV, q1⟩ := laid_new w1 L
  replace EE := EE.go bV
  have hV2 := hV1.kept bV
  clear hW hb1 HO' hVW hV1
  cases p with
  | false =>
    obtain rfl : o = false := HOp.out rfl
    have HE : Hid (T = []) := HT0.out (by simp)
    have hcr : ((w1.alloc (.cells #[.int .i64 0, .int .i64 0, .int .i64 0, .int .i64 0, .int .i64 0, .int .i64 0, .int .i64 0, .int .i64 0, .int .i64 0, .int .i64 0, .int .i64 0, .int .i64 0, .int .i64 0, .int .i64 0, .int .i64 0, .int .i64 0] 57)).setRow w1.heap.size (I64 L).toArray).cell? ⟨w.heap.size + 1, 0, none⟩ = some (.slice none 0 0) := EE.pr.cell 0
    have hfr := EE.pr.frozen 0
    have HA : Hid _ := EE.pr.set 0 (.slice none 0 0)
    have HB : Hid _ := EE.fr.setCell (p := ⟨w.heap.size + 1, 0, none⟩) (by show w.heap.size ≤ w.heap.size + 1; omega) (.slice none 0 0)
    clear EE HT0 HOp HOz HIN hq pV bV hV2
    go_wp2_with (refine wpList_store_row rfl 57 _ _ rfl w1.heap.size (I64 L).toArray rfl rfl 57 _ q1 hil (by simp [hLl]) (by simp [Value.oneCell']) ?_)
    exact bodyPost_ret (results_row_tmp (v := .bool false) (cs := [.slice none 0 0]) rfl rfl rfl HA.out Tryd.underlying25 rfl infoFe) rfl ⟨_, rfl, HE.out ▸ feT_nil _ _ _, HB.out⟩
  | true =>
    have hoz : o = !z := HOz.out rfl
    cases z with
    | true =>
      obtain rfl : o = false := hoz
      have HE : Hid (T = []) := HT0.out (by simp)
      have hcr : ((w1.alloc (.cells #[.int .i64 0, .int .i64 0, .int .i64 0, .int .i64 0, .int .i64 0, .int .i64 0, .int .i64 0, .int .i64 0, .int .i64 0, .int .i64 0, .int .i64 0, .int .i64 0, .int .i64 0, .int .i64 0, .int .i64 0, .int .i64 0] 57)).setRow w1.heap.size (I64 L).toArray).cell? ⟨w.heap.size + 1, 0, none⟩ = some (.slice none 0 0) := EE.pr.cell 0
      have hfr := EE.pr.frozen 0
      have HA : Hid _ := EE.pr.set 0 (.slice none 0 0)
      have HB : Hid _ := EE.fr.setCell (p := ⟨w.heap.size + 1, 0, none⟩) (by show w.heap.size ≤ w.heap.size + 1; omega) (.slice none 0 0)
      clear EE HT0 HOp HOz HIN bV hV2
      go_wp2_with (first
        | (refine wpList_store_row rfl 57 _ _ rfl w1.heap.size (I64 L).toArray rfl rfl 57 _ q1 hil (by simp [hLl]) (by simp [Value.oneCell']) ?_)
        | (refine wpList_load_rowW rfl 57 _ rfl w1.heap.size rfl 57 (I64 L).toArray (0, 0) _ pV Tryd.underlying57 rfl hil ?_))
      exact bodyPost_ret (results_row_tmp (v := .bool false) (cs := [.slice none 0 0]) rfl rfl rfl HA.out Tryd.underlying25 rfl infoFe) rfl ⟨_, rfl, HE.out ▸ feT_nil _ _ _, HB.out⟩
    | false =>
      obtain rfl : o = true := hoz
      obtain ⟨hTl, hin⟩ := HIN.out (by simp) (by simp)
      have HI : Hid (∀ Z, Vr Z 0 (I64 PL) → Calls Tryd.prog 57 #[.agg (I64 L).toArray] Z fun e w' => e = .returned (.agg (I64 T).toArray) ∧ Below Z.heap.size Z w') := hin
      clear HT0 HOp HOz HIN bV hin
      go_wp2_with (first
        | (refine wpList_store_row rfl 57 _ _ rfl w1.heap.size (I64 L).toArray rfl rfl 57 _ q1 hil (by simp [hLl]) (by simp [Value.oneCell']) ?_)
        | (refine wpList_load_rowW rfl 57 _ rfl w1.heap.size rfl 57 (I64 L).toArray (0, 0) _ pV Tryd.underlying57 rfl hil ?_))
      clear hq pV q1
      refine (HI.out _ hV2).mono ?_
      rintro e w2 ⟨rfl, hb2⟩
      replace EE := EE.go hb2
      clear hb2 HI hV2
      go_wp2_with fail
      refine (implList T _ hTl).mono ?_
      rintro e w4 ⟨a', c', rfl, ho, hb4⟩
      have hlt := EE.pr.lt
      have hsz := EE.fr.size
      replace EE := EE.go hb4
      have HOW : Hid _ := own_base (own_other' ho ⟨w.heap.size + 1, 0, none⟩ (.slice a' 16 c') hlt) hsz
      have hcr : w4.cell? ⟨w.heap.size + 1, 0, none⟩ = some (.slice none 0 0) := EE.pr.cell 0
      have hfr := EE.pr.frozen 0
      have HA : Hid _ := EE.pr.set 0 (.slice a' 16 c')
      have HB : Hid _ := EE.fr.setCell (p := ⟨w.heap.size + 1, 0, none⟩) (by show w.heap.size ≤ w.heap.size + 1; omega) (.slice a' 16 c')
      clear EE ho hb4 hsz hlt
      go_wp2
      exact bodyPost_ret (results_row_tmp (v := .bool true) (cs := [.slice a' 16 c']) rfl rfl rfl HA.out Tryd.underlying25 rfl infoFe) rfl ⟨_, rfl, feT_16 hTl HOW.out, HB.out⟩

set_option maxHeartbeats 2000000 in
theorem implFeRoot (a : Option Addr) (n c : Nat) (xs : List Int) (w : World) (hx : Is w a n c xs) (hV : Vr w 0 (I64 PL)) (hQ : Vr w 1 (I64 QL)) :
    Calls Tryd.prog 27 #[.agg #[.slice a n c]] w fun e w' => ∃ v, e = .returned (.tuple #[v, .bool (rootOk xs)]) ∧ FeT 57 w w' v (rootL xs) ∧ Below w.heap.size w w' := by
  have EE : F2 w _ (.slice a n c) := F2.new w (.slice a n c)
  obtain ⟨W, hW⟩ : ∃ W, W = (w.alloc (.cells #[.slice a n c] 25)).alloc (.cells #[.slice none 0 0] 25) := ⟨_, rfl⟩
  rw [← hW] at EE
  have HO := implOpen a n c xs W (hx.below EE.fr) (hV.kept EE.fr)
  have hVW := hV.kept EE.fr
  have hQW := hQ.kept EE.fr
  have hLl := lmL_len xs
  obtain ⟨L, hL⟩ : ∃ L, L = lmL xs := ⟨_, rfl⟩
  obtain ⟨p, hp⟩ : ∃ p, p = feOk xs := ⟨_, rfl⟩
  obtain ⟨o, ho⟩ : ∃ o, o = rootOk xs := ⟨_, rfl⟩
  obtain ⟨T, hT⟩ : ∃ T, T = rootL xs := ⟨_, rfl⟩
  obtain ⟨R, hR⟩ : ∃ R, R = rtR L := ⟨_, rfl⟩
  have hRl : R.length = 16 := by rw [hR]; exact rtR_len L
  have hLx : p = true → L = xs := fun h => by rw [hL]; exact lmL_of (by rw [← hp]; exact h)
  have HT0 : Hid (o = false → T = []) := by unfold Hid; intro h; rw [hT]; unfold rootL; rw [← ho, h]; rfl
  have HOp : Hid (p = false → o = false) := by unfold Hid; intro h; rw [ho]; unfold rootOk; rw [← hp, h]; rfl
  have HT1 : Hid (p = true → o = true → T = R) := by
    unfold Hid; intro h h'
    have h2 : rtOk xs = true := by rw [ho] at h'; unfold rootOk at h'; rw [← hp, h] at h'; exact h'
    rw [hT, hR, hLx h]; unfold rootL rtR; rw [← ho, h', h2]; rfl
  have HRT : Hid (p = true → ∀ Z, Vr Z 0 (I64 PL) → Vr Z 1 (I64 QL) → Calls Tryd.prog 64 #[.agg (I64 L).toArray] Z fun e w' => e = .returned (.tuple #[.agg (I64 R).toArray, .bool o]) ∧ Below Z.heap.size Z w') := by
    unfold Hid; intro h Z hZ hZ'
    have e : o = rtOk L := by rw [ho, hLx h]; unfold rootOk; rw [← hp, h]; rfl
    rw [e, hR]
    exact implRoot16 L Z (by rw [hLx h, ← hp]; exact h) hZ hZ'
  rw [← hL, ← hp] at HO
  rw [← hL] at hLl
  rw [← hT, ← ho]
  have HO' : Hid (Calls Tryd.prog 56 #[.agg #[.slice a n c]] W fun e w' => e = .returned (.tuple #[.agg (I64 L).toArray, .bool p]) ∧ Below W.heap.size W w') := HO
  have hil : (Tryd.prog.info? 57).map (·.size) = some (I64 L).toArray.size := by simpa [hLl] using infoL
  have hir : (Tryd.prog.info? 57).map (·.size) = some (I64 R).toArray.size := by simpa [hRl] using infoL
  clear HO hL hp hT ho hx hV hQ hLx hR
  go_enter Tryd.func27, Tryd.ntmps27
  go_wp2_with fail
  rw [← hW]
  refine HO'.out.mono ?_
  rintro e w1 ⟨rfl, hb1⟩
  replace EE := EE.go hb1
  have hV1 := hVW.kept hb1
  have hQ1 := hQW.kept hb1
  obtain ⟨bV, pV, q1⟩ := laid_new w1 L
  replace EE := EE.go bV
  have hV2 := hV1.kept bV
  have hQ2 := hQ1.kept bV
  clear hW hb1 HO' hVW hV1 hQW hQ1
  cases p with
  | false =>
    obtain rfl : o = false := HOp.out rfl
    have HE : Hid (T = []) := HT0.out (by simp)
    have hcr : ((w1.alloc (.cells #[.int .i64 0, .int .i64 0, .int .i64 0, .int .i64 0, .int .i64 0, .int .i64 0, .int .i64 0, .int .i64 0, .int .i64 0, .int .i64 0, .int .i64 0, .int .i64 0, .int .i64 0, .int .i64 0, .int .i64 0, .int .i64 0] 57)).setRow w1.heap.size (I64 L).toArray).cell? ⟨w.heap.size + 1, 0, none⟩ = some (.slice none 0 0) := EE.pr.cell 0
    have hfr := EE.pr.frozen 0
    have HA : Hid _ := EE.pr.set 0 (.slice none 0 0)
    have HB : Hid _ := EE.fr.setCell (p := ⟨w.heap.size + 1, 0, none⟩) (by show w.heap.size ≤ w.heap.size + 1; omega) (.slice none 0 0)
    clear EE HT0 HOp HT1 HRT pV bV hV2 hQ2
    go_wp2_with (refine wpList_store_row rfl 57 _ _ rfl w1.heap.size (I64 L).toArray rfl rfl 57 _ q1 hil (by simp [hLl]) (by simp [Value.oneCell']) ?_)
    exact bodyPost_ret (results_row_tmp (v := .bool false) (cs := [.slice none 0 0]) rfl rfl rfl HA.out Tryd.underlying25 rfl infoFe) rfl ⟨_, rfl, HE.out ▸ feT_nil _ _ _, HB.out⟩
  | true =>
    have HR2 : Hid (∀ Z, Vr Z 0 (I64 PL) → Vr Z 1 (I64 QL) → Calls Tryd.prog 64 #[.agg (I64 L).toArray] Z fun e w' => e = .returned (.tuple #[.agg (I64 R).toArray, .bool o]) ∧ Below Z.heap.size Z w') := HRT.out rfl
    have HT2 : Hid (o = true → T = R) := HT1.out rfl
    clear HOp HT1 HRT bV
    go_wp2_with (first
      | (refine wpList_store_row rfl 57 _ _ rfl w1.heap.size (I64 L).toArray rfl rfl 57 _ q1 hil (by simp [hLl]) (by simp [Value.oneCell']) ?_)
      | (refine wpList_load_row rfl 57 _ rfl w1.heap.size rfl 57 (I64 L).toArray (0, 0) _ pV Tryd.underlying57 rfl hil ?_))
    clear pV q1
    refine (HR2.out _ hV2 hQ2).mono ?_
    rintro e w2 ⟨rfl, hb2⟩
    replace EE := EE.go hb2
    obtain ⟨bV, pV, q1⟩ := laid_new w2 R
    replace EE := EE.go bV
    clear hb2 HR2 hV2 hQ2 bV
    cases o with
    | false =>
      have HE : Hid (T = []) := HT0.out (by simp)
      have hcr : ((w2.alloc (.cells #[.int .i64 0, .int .i64 0, .int .i64 0, .int .i64 0, .int .i64 0, .int .i64 0, .int .i64 0, .int .i64 0, .int .i64 0, .int .i64 0, .int .i64 0, .int .i64 0, .int .i64 0, .int .i64 0, .int .i64 0, .int .i64 0] 57)).setRow w2.heap.size (I64 R).toArray).cell? ⟨w.heap.size + 1, 0, none⟩ = some (.slice none 0 0) := EE.pr.cell 0
      have hfr := EE.pr.frozen 0
      have HA : Hid _ := EE.pr.set 0 (.slice none 0 0)
      have HB : Hid _ := EE.fr.setCell (p := ⟨w.heap.size + 1, 0, none⟩) (by show w.heap.size ≤ w.heap.size + 1; omega) (.slice none 0 0)
      clear EE HT0 HT2 pV
      go_wp2_with (refine wpList_store_row rfl 57 _ _ rfl w2.heap.size (I64 R).toArray rfl rfl 57 _ q1 hir (by simp [hRl]) (by simp [Value.oneCell']) ?_)
      exact bodyPost_ret (results_row_tmp (v := .bool false) (cs := [.slice none 0 0]) rfl rfl rfl HA.out Tryd.underlying25 rfl infoFe) rfl ⟨_, rfl, HE.out ▸ feT_nil _ _ _, HB.out⟩
    | true =>
      have HE : Hid (T = R) := HT2.out (by simp)
      clear HT0 HT2
      go_wp2_with (first
        | (refine wpList_store_row rfl 57 _ _ rfl w2.heap.size (I64 R).toArray rfl rfl 57 _ q1 hir (by simp [hRl]) (by simp [Value.oneCell']) ?_)
        | (refine wpList_load_row rfl 57 _ rfl w2.heap.size rfl 57 (I64 R).toArray (0, 0) _ pV Tryd.underlying57 rfl hir ?_))
      clear pV q1
      refine (implList R _ hRl).mono ?_
      rintro e w4 ⟨a', c', rfl, ho, hb4⟩
      have hlt := EE.pr.lt
      have hsz := EE.fr.size
      replace EE := EE.go hb4
      have HOW : Hid _ := own_base (own_other' ho ⟨w.heap.size + 1, 0, none⟩ (.slice a' 16 c') hlt) hsz
      have hcr : w4.cell? ⟨w.heap.size + 1, 0, none⟩ = some (.slice none 0 0) := EE.pr.cell 0
      have hfr := EE.pr.frozen 0
      have HA : Hid _ := EE.pr.set 0 (.slice a' 16 c')
      have HB : Hid _ := EE.fr.setCell (p := ⟨w.heap.size + 1, 0, none⟩) (by show w.heap.size ≤ w.heap.size + 1; omega) (.slice a' 16 c')
      clear EE ho hb4 hsz hlt
      go_wp2
      exact bodyPost_ret (results_row_tmp (v := .bool true) (cs := [.slice a' 16 c']) rfl rfl rfl HA.out Tryd.underlying25 rfl infoFe) rfl ⟨_, rfl, HE.out ▸ feT_16 hRl HOW.out, HB.out⟩
end Go.Proofs.YtpchdfdeomhakaaDoor

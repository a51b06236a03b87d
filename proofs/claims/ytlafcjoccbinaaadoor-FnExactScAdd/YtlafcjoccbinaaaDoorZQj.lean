/-
  What is proved here: the contracts of the program's ScAdd and ScMul: the sum and the product of two multipliers; where the program's variable holds the order.
-/
import Derived.Test.YtlafcjoccbinaaaDoorZQi
namespace Go.Proofs.YtlafcjoccbinaaaDoor
open Go.RowKit
set_option maxRecDepth 100000

/-- The two boxes and the result's cell. -/
structure S3r (w W : World) (va vb : Value) : Prop where
  fr : Below w.heap.size w W
  pa : Arr W w.heap.size 25 [va]
  pb : Arr W (w.heap.size + 1) 25 [vb]
  pr : Arr W (w.heap.size + 2) 25 [.slice none 0 0]
  vr : Vr W 0 (I64 OL)
theorem S3r.go {w A B : World} {va vb : Value} (h : S3r w A va vb) (hb : Below A.heap.size A B) : S3r w B va vb := ⟨h.fr.trans (hb.mono h.fr.size), h.pa.kept hb, h.pb.kept hb, h.pr.kept hb, h.vr.kept hb⟩
theorem S3r.new {w : World} (va vb : Value) (h : Vr w 0 (I64 OL)) : S3r w (((w.alloc (.cells #[va] 25)).alloc (.cells #[vb] 25)).alloc (.cells #[.slice none 0 0] 25)) va vb := by
  have b1 : Below w.heap.size w (w.alloc (.cells #[va] 25)) := (Below.refl _ _).alloc (Nat.le_refl _) _
  have b2 := b1.alloc (by simp) (.cells #[vb] 25)
  have hb := b2.alloc (by simp; omega) (.cells #[.slice none 0 0] 25)
  refine ⟨hb, ((Arr.new w [va] _).alloc _).alloc _, ?_, ?_, h.kept hb⟩
  · have := (Arr.new (w.alloc (.cells #[va] 25)) [vb] 25).alloc (.cells #[.slice none 0 0] 25)
    rw [World.size_alloc] at this
    exact this
  · have := Arr.new ((w.alloc (.cells #[va] 25)).alloc (.cells #[vb] 25)) [.slice none 0 0] 25
    rw [World.size_alloc, World.size_alloc] at this
    exact this
/-- Two multipliers are laid into new cells. -/
theorem laid_mu2 (w1 : World) (L M : List Int) :
    Below w1.heap.size w1 ((((w1.alloc (.cells #[.int .i64 0, .int .i64 0, .int .i64 0, .int .i64 0, .int .i64 0, .int .i64 0, .int .i64 0, .int .i64 0, .int .i64 0, .int .i64 0, .int .i64 0, .int .i64 0, .int .i64 0, .int .i64 0, .int .i64 0, .int .i64 0] 51)).alloc (.cells #[.int .i64 0, .int .i64 0, .int .i64 0, .int .i64 0, .int .i64 0, .int .i64 0, .int .i64 0, .int .i64 0, .int .i64 0, .int .i64 0, .int .i64 0, .int .i64 0, .int .i64 0, .int .i64 0, .int .i64 0, .int .i64 0] 51)).setRow w1.heap.size (I64 L).toArray).setRow (w1.heap.size + 1) (I64 M).toArray) ∧
    Arr ((((w1.alloc (.cells #[.int .i64 0, .int .i64 0, .int .i64 0, .int .i64 0, .int .i64 0, .int .i64 0, .int .i64 0, .int .i64 0, .int .i64 0, .int .i64 0, .int .i64 0, .int .i64 0, .int .i64 0, .int .i64 0, .int .i64 0, .int .i64 0] 51)).alloc (.cells #[.int .i64 0, .int .i64 0, .int .i64 0, .int .i64 0, .int .i64 0, .int .i64 0, .int .i64 0, .int .i64 0, .int .i64 0, .int .i64 0, .int .i64 0, .int .i64 0, .int .i64 0, .int .i64 0, .int .i64 0, .int .i64 0] 51)).setRow w1.heap.size (I64 L).toArray).setRow (w1.heap.size + 1) (I64 M).toArray) w1.heap.size 51 (I64 L) ∧
    Arr ((((w1.alloc (.cells #[.int .i64 0, .int .i64 0, .int .i64 0, .int .i64 0, .int .i64 0, .int .i64 0, .int .i64 0, .int .i64 0, .int .i64 0, .int .i64 0, .int .i64 0, .int .i64 0, .int .i64 0, .int .i64 0, .int .i64 0, .int .i64 0] 51)).alloc (.cells #[.int .i64 0, .int .i64 0, .int .i64 0, .int .i64 0, .int .i64 0, .int .i64 0, .int .i64 0, .int .i64 0, .int .i64 0, .int .i64 0, .int .i64 0, .int .i64 0, .int .i64 0, .int .i64 0, .int .i64 0, .int .i64 0] 51)).setRow w1.heap.size (I64 L).toArray).setRow (w1.heap.size + 1) (I64 M).toArray) (w1.heap.size + 1) 51 (I64 M) ∧
    Arr ((w1.alloc (.cells #[.int .i64 0, .int .i64 0, .int .i64 0, .int .i64 0, .int .i64 0, .int .i64 0, .int .i64 0, .int .i64 0, .int .i64 0, .int .i64 0, .int .i64 0, .int .i64 0, .int .i64 0, .int .i64 0, .int .i64 0, .int .i64 0] 51)).alloc (.cells #[.int .i64 0, .int .i64 0, .int .i64 0, .int .i64 0, .int .i64 0, .int .i64 0, .int .i64 0, .int .i64 0, .int .i64 0, .int .i64 0, .int .i64 0, .int .i64 0, .int .i64 0, .int .i64 0, .int .i64 0, .int .i64 0] 51)) w1.heap.size 51 (I64 Z16) ∧
    Arr (((w1.alloc (.cells #[.int .i64 0, .int .i64 0, .int .i64 0, .int .i64 0, .int .i64 0, .int .i64 0, .int .i64 0, .int .i64 0, .int .i64 0, .int .i64 0, .int .i64 0, .int .i64 0, .int .i64 0, .int .i64 0, .int .i64 0, .int .i64 0] 51)).alloc (.cells #[.int .i64 0, .int .i64 0, .int .i64 0, .int .i64 0, .int .i64 0, .int .i64 0, .int .i64 0, .int .i64 0, .int .i64 0, .int .i64 0, .int .i64 0, .int .i64 0, .int .i64 0, .int .i64 0, .int .i64 0, .int .i64 0] 51)).setRow w1.heap.size (I64 L).toArray) (w1.heap.size + 1) 51 (I64 Z16) := by
  have q1 : Arr ((w1.alloc (.cells #[.int .i64 0, .int .i64 0, .int .i64 0, .int .i64 0, .int .i64 0, .int .i64 0, .int .i64 0, .int .i64 0, .int .i64 0, .int .i64 0, .int .i64 0, .int .i64 0, .int .i64 0, .int .i64 0, .int .i64 0, .int .i64 0] 51)).alloc (.cells #[.int .i64 0, .int .i64 0, .int .i64 0, .int .i64 0, .int .i64 0, .int .i64 0, .int .i64 0, .int .i64 0, .int .i64 0, .int .i64 0, .int .i64 0, .int .i64 0, .int .i64 0, .int .i64 0, .int .i64 0, .int .i64 0] 51)) w1.heap.size 51 (I64 Z16) := (Arr.new w1 (I64 Z16) _).alloc _
  have q2 : Arr ((w1.alloc (.cells #[.int .i64 0, .int .i64 0, .int .i64 0, .int .i64 0, .int .i64 0, .int .i64 0, .int .i64 0, .int .i64 0, .int .i64 0, .int .i64 0, .int .i64 0, .int .i64 0, .int .i64 0, .int .i64 0, .int .i64 0, .int .i64 0] 51)).alloc (.cells #[.int .i64 0, .int .i64 0, .int .i64 0, .int .i64 0, .int .i64 0, .int .i64 0, .int .i64 0, .int .i64 0, .int .i64 0, .int .i64 0, .int .i64 0, .int .i64 0, .int .i64 0, .int .i64 0, .int .i64 0, .int .i64 0] 51)) (w1.heap.size + 1) 51 (I64 Z16) := by
    have := Arr.new (w1.alloc (.cells (I64 Z16).toArray 51)) (I64 Z16) 51
    rw [World.size_alloc] at this
    exact this
  have hb : Below w1.heap.size w1 ((w1.alloc (.cells #[.int .i64 0, .int .i64 0, .int .i64 0, .int .i64 0, .int .i64 0, .int .i64 0, .int .i64 0, .int .i64 0, .int .i64 0, .int .i64 0, .int .i64 0, .int .i64 0, .int .i64 0, .int .i64 0, .int .i64 0, .int .i64 0] 51)).alloc (.cells #[.int .i64 0, .int .i64 0, .int .i64 0, .int .i64 0, .int .i64 0, .int .i64 0, .int .i64 0, .int .i64 0, .int .i64 0, .int .i64 0, .int .i64 0, .int .i64 0, .int .i64 0, .int .i64 0, .int .i64 0, .int .i64 0] 51)) := ((Below.refl _ _).alloc (Nat.le_refl _) _).alloc (by simp) _
  exact ⟨setRow_below (setRow_below hb _ _ (Nat.le_refl _)) _ _ (by omega), (q1.row _).rowOther _ _ (by omega), (q2.rowOther _ _ (by omega)).row _, q1, q2.rowOther _ _ (by omega)⟩

set_option maxHeartbeats 2000000 in
theorem implScAdd (a : Option Addr) (n c : Nat) (xs : List Int) (b : Option Addr) (m d : Nat) (ys : List Int) (w : World) (hx : Is w a n c xs) (hy : Is w b m d ys) (hV : Vr w 0 (I64 OL)) :
    Calls Tryd.prog 12 #[.agg #[.slice a n c], .agg #[.slice b m d]] w fun e w' => ∃ v, e = .returned (.tuple #[v, .bool (scOk xs && scOk ys)]) ∧ FeT 49 w w' v (sc2 (fun x y => x + y) xs ys) ∧ Below w.heap.size w w' := by
  obtain ⟨W, hW⟩ : ∃ W, W = ((w.alloc (.cells #[.slice a n c] 25)).alloc (.cells #[.slice b m d] 25)).alloc (.cells #[.slice none 0 0] 25) := ⟨_, rfl⟩
  have EE : S3r w W (.slice a n c) (.slice b m d) := by rw [hW]; exact S3r.new _ _ hV
  have HO := implMus a n c xs b m d ys W (hx.below EE.fr) (hy.below EE.fr) EE.vr
  have hSl := scL_len xs
  have hTl := scL_len ys
  obtain ⟨o, ho⟩ : ∃ o, o = (scOk xs && scOk ys) := ⟨_, rfl⟩
  obtain ⟨Q, hQ⟩ : ∃ Q, Q = sc2 (fun x y => x + y) xs ys := ⟨_, rfl⟩
  obtain ⟨R, hR⟩ : ∃ R, R = redO (val xs + val ys) := ⟨_, rfl⟩
  have hRl : R.length = 16 := by rw [hR]; exact redO_len _
  have HQ0 : Hid (o = false → Q = []) := by unfold Hid; intro h; rw [hQ]; unfold sc2; rw [← ho, h]; rfl
  have HQ1 : Hid (o = true → Q = R) := by unfold Hid; intro h; rw [hQ, hR]; unfold sc2; rw [← ho, h]; rfl
  have HF : Hid (o = true → ∀ Z, Vr Z 0 (I64 OL) → Calls Tryd.prog 40 #[.agg (I64 (scL xs)).toArray, .agg (I64 (scL ys)).toArray] Z fun e w' => e = .returned (.agg (I64 R).toArray) ∧ Below Z.heap.size Z w') := by
    unfold Hid; intro h Z hZ
    rw [ho, Bool.and_eq_true] at h
    have e1 : scL xs = xs := by unfold scL; rw [if_pos h.1]
    have e2 : scL ys = ys := by unfold scL; rw [if_pos h.2]
    rw [e1, e2, hR]
    exact implMuSum xs ys Z h.1 h.2 hZ
  obtain ⟨S, hS⟩ : ∃ S, S = scL xs := ⟨_, rfl⟩
  obtain ⟨T, hT⟩ : ∃ T, T = scL ys := ⟨_, rfl⟩
  rw [← hS] at HO hSl HF
  rw [← hT] at HO hTl HF
  rw [← ho] at HO ⊢
  rw [← hQ]
  have HO' : Hid (Calls Tryd.prog 39 #[.agg #[.slice a n c], .agg #[.slice b m d]] W fun e w' => e = .returned (.tuple #[.agg (I64 S).toArray, .agg (I64 T).toArray, .bool o]) ∧ Below W.heap.size W w') := HO
  have his : (Tryd.prog.info? 51).map (·.size) = some (I64 S).toArray.size := by simpa [hSl] using infoM
  have hit : (Tryd.prog.info? 51).map (·.size) = some (I64 T).toArray.size := by simpa [hTl] using infoM
  clear HO hS hT ho hQ hR hx hy hV
  go_enter Tryd.func12, Tryd.ntmps12
  go_wp2_with fail
  rw [← hW]
  refine HO'.out.mono ?_
  rintro e w1 ⟨rfl, hb1⟩
  replace EE := EE.go hb1
  obtain ⟨bV, p1, p2, q1, q2⟩ := laid_mu2 w1 S T
  have hlt1 := EE.pr.lt
  replace EE := EE.go bV
  clear hW hb1 HO' bV
  obtain ⟨V, hVV⟩ : ∃ V, V = (((w1.alloc (.cells #[.int .i64 0, .int .i64 0, .int .i64 0, .int .i64 0, .int .i64 0, .int .i64 0, .int .i64 0, .int .i64 0, .int .i64 0, .int .i64 0, .int .i64 0, .int .i64 0, .int .i64 0, .int .i64 0, .int .i64 0, .int .i64 0] 51)).alloc (.cells #[.int .i64 0, .int .i64 0, .int .i64 0, .int .i64 0, .int .i64 0, .int .i64 0, .int .i64 0, .int .i64 0, .int .i64 0, .int .i64 0, .int .i64 0, .int .i64 0, .int .i64 0, .int .i64 0, .int .i64 0, .int .i64 0] 51)).setRow w1.heap.size (I64 S).toArray).setRow (w1.heap.size + 1) (I64 T).toArray := ⟨_, rfl⟩
  rw [← hVV] at EE p1 p2
  have HV : Hid _ := hVV
  cases o with
  | false =>
    have HE : Hid (Q = []) := HQ0.out rfl
    have hcr : V.cell? ⟨w.heap.size + 2, 0, none⟩ = some (.slice none 0 0) := EE.pr.cell 0
    have hfr := EE.pr.frozen 0
    have HA : Hid _ := EE.pr.set 0 (.slice none 0 0)
    have HB : Hid _ := EE.fr.setCell (p := ⟨w.heap.size + 2, 0, none⟩) (by simp only; omega) (.slice none 0 0)
    rw [hVV] at hcr hfr
    clear EE HQ0 HQ1 HF p1 p2 hVV
    go_wp2_with (first
      | (refine wpList_store_row rfl 51 _ _ rfl w1.heap.size (I64 S).toArray rfl rfl 51 _ q1 his (by simp [hSl]) (by simp [Value.oneCell']) ?_)
      | (refine wpList_store_row rfl 51 _ _ rfl (w1.heap.size + 1) (I64 T).toArray rfl rfl 51 _ q2 hit (by simp [hTl]) (by simp [Value.oneCell']) ?_))
    rw [← HV.out]
    exact bodyPost_ret (results_row_tmp (v := .bool false) (cs := [.slice none 0 0]) rfl rfl rfl HA.out Tryd.underlying25 rfl infoSc) rfl ⟨_, rfl, HE.out ▸ feT_nil _ _ _, HB.out⟩
  | true =>
    have HE : Hid (Q = R) := HQ1.out rfl
    have HY : Hid (∀ Z, Vr Z 0 (I64 OL) → Calls Tryd.prog 40 #[.agg (I64 S).toArray, .agg (I64 T).toArray] Z fun e w' => e = .returned (.agg (I64 R).toArray) ∧ Below Z.heap.size Z w') := HF.out rfl
    rw [hVV] at p1 p2
    clear HQ0 HQ1 HF hVV
    go_wp2_with (first
      | (refine wpList_store_row rfl 51 _ _ rfl w1.heap.size (I64 S).toArray rfl rfl 51 _ q1 his (by simp [hSl]) (by simp [Value.oneCell']) ?_)
      | (refine wpList_store_row rfl 51 _ _ rfl (w1.heap.size + 1) (I64 T).toArray rfl rfl 51 _ q2 hit (by simp [hTl]) (by simp [Value.oneCell']) ?_)
      | (refine wpList_load_row rfl 51 _ rfl w1.heap.size rfl 51 (I64 S).toArray (0, 0) _ p1 Tryd.underlying51 rfl his ?_)
      | (refine wpList_load_row rfl 51 _ rfl (w1.heap.size + 1) rfl 51 (I64 T).toArray (0, 0) _ p2 Tryd.underlying51 rfl hit ?_))
    rw [← HV.out]
    clear HV p1 p2 q1 q2
    refine (HY.out _ EE.vr).mono ?_
    rintro e w2 ⟨rfl, hb2⟩
    replace EE := EE.go hb2
    clear hb2 HY
    go_wp2_with (refine wpList_part rfl _ rfl R hRl rfl ?_)
    refine (implList R _ hRl).mono ?_
    rintro e w4 ⟨a', c', rfl, ho, hb4⟩
    have hlt := EE.pr.lt
    have hsz := EE.fr.size
    replace EE := EE.go hb4
    have HOW : Hid _ := own_base (own_other' ho ⟨w.heap.size + 2, 0, none⟩ (.slice a' 16 c') hlt) hsz
    have hcr : w4.cell? ⟨w.heap.size + 2, 0, none⟩ = some (.slice none 0 0) := EE.pr.cell 0
    have hfr := EE.pr.frozen 0
    have HA : Hid _ := EE.pr.set 0 (.slice a' 16 c')
    have HB : Hid _ := EE.fr.setCell (p := ⟨w.heap.size + 2, 0, none⟩) (by simp only; omega) (.slice a' 16 c')
    clear EE ho hb4 hsz hlt
    go_wp2
    exact bodyPost_ret (results_row_tmp (v := .bool true) (cs := [.slice a' 16 c']) rfl rfl rfl HA.out Tryd.underlying25 rfl infoSc) rfl ⟨_, rfl, HE.out ▸ feT_16 hRl HOW.out, HB.out⟩

set_option maxHeartbeats 2000000 in
theorem implScMul (a : Option Addr) (n c : Nat) (xs : List Int) (b : Option Addr) (m d : Nat) (ys : List Int) (w : World) (hx : Is w a n c xs) (hy : Is w b m d ys) (hV : Vr w 0 (I64 OL)) :
    Calls Tryd.prog 15 #[.agg #[.slice a n c], .agg #[.slice b m d]] w fun e w' => ∃ v, e = .returned (.tuple #[v, .bool (scOk xs && scOk ys)]) ∧ FeT 49 w w' v (sc2 (fun x y => x * y) xs ys) ∧ Below w.heap.size w w' := by
  obtain ⟨W, hW⟩ : ∃ W, W = ((w.alloc (.cells #[.slice a n c] 25)).alloc (.cells #[.slice b m d] 25)).alloc (.cells #[.slice none 0 0] 25) := ⟨_, rfl⟩
  have EE : S3r w W (.slice a n c) (.slice b m d) := by rw [hW]; exact S3r.new _ _ hV
  have HO := implMus a n c xs b m d ys W (hx.below EE.fr) (hy.below EE.fr) EE.vr
  have hSl := scL_len xs
  have hTl := scL_len ys
  obtain ⟨o, ho⟩ : ∃ o, o = (scOk xs && scOk ys) := ⟨_, rfl⟩
  obtain ⟨Q, hQ⟩ : ∃ Q, Q = sc2 (fun x y => x * y) xs ys := ⟨_, rfl⟩
  obtain ⟨R, hR⟩ : ∃ R, R = redO (val xs * val ys) := ⟨_, rfl⟩
  have hRl : R.length = 16 := by rw [hR]; exact redO_len _
  have HQ0 : Hid (o = false → Q = []) := by unfold Hid; intro h; rw [hQ]; unfold sc2; rw [← ho, h]; rfl
  have HQ1 : Hid (o = true → Q = R) := by unfold Hid; intro h; rw [hQ, hR]; unfold sc2; rw [← ho, h]; rfl
  have HF : Hid (o = true → ∀ Z, Vr Z 0 (I64 OL) → Calls Tryd.prog 45 #[.agg (I64 (scL xs)).toArray, .agg (I64 (scL ys)).toArray] Z fun e w' => e = .returned (.agg (I64 R).toArray) ∧ Below Z.heap.size Z w') := by
    unfold Hid; intro h Z hZ
    rw [ho, Bool.and_eq_true] at h
    have e1 : scL xs = xs := by unfold scL; rw [if_pos h.1]
    have e2 : scL ys = ys := by unfold scL; rw [if_pos h.2]
    rw [e1, e2, hR]
    exact implMuProd xs ys Z h.1 h.2 hZ
  obtain ⟨S, hS⟩ : ∃ S, S = scL xs := ⟨_, rfl⟩
  obtain ⟨T, hT⟩ : ∃ T, T = scL ys := ⟨_, rfl⟩
  rw [← hS] at HO hSl HF
  rw [← hT] at HO hTl HF
  rw [← ho] at HO ⊢
  rw [← hQ]
  have HO' : Hid (Calls Tryd.prog 39 #[.agg #[.slice a n c], .agg #[.slice b m d]] W fun e w' => e = .returned (.tuple #[.agg (I64 S).toArray, .agg (I64 T).toArray, .bool o]) ∧ Below W.heap.size W w') := HO
  have his : (Tryd.prog.info? 51).map (·.size) = some (I64 S).toArray.size := by simpa [hSl] using infoM
  have hit : (Tryd.prog.info? 51).map (·.size) = some (I64 T).toArray.size := by simpa [hTl] using infoM
  clear HO hS hT ho hQ hR hx hy hV
  go_enter Tryd.func15, Tryd.ntmps15
  go_wp2_with fail
  rw [← hW]
  refine HO'.out.mono ?_
  rintro e w1 ⟨rfl, hb1⟩
  replace EE := EE.go hb1
  obtain ⟨bV, p1, p2, q1, q2⟩ := laid_mu2 w1 S T
  have hlt1 := EE.pr.lt
  replace EE := EE.go bV
  clear hW hb1 HO' bV
  obtain ⟨V, hVV⟩ : ∃ V, V = (((w1.alloc (.cells #[.int .i64 0, .int .i64 0, .int .i64 0, .int .i64 0, .int .i64 0, .int .i64 0, .int .i64 0, .int .i64 0, .int .i64 0, .int .i64 0, .int .i64 0, .int .i64 0, .int .i64 0, .int .i64 0, .int .i64 0, .int .i64 0] 51)).alloc (.cells #[.int .i64 0, .int .i64 0, .int .i64 0, .int .i64 0, .int .i64 0, .int .i64 0, .int .i64 0, .int .i64 0, .int .i64 0, .int .i64 0, .int .i64 0, .int .i64 0, .int .i64 0, .int .i64 0, .int .i64 0, .int .i64 0] 51)).setRow w1.heap.size (I64 S).toArray).setRow (w1.heap.size + 1) (I64 T).toArray := ⟨_, rfl⟩
  rw [← hVV] at EE p1 p2
  have HV : Hid _ := hVV
  cases o with
  | false =>
    have HE : Hid (Q = []) := HQ0.out rfl
    have hcr : V.cell? ⟨w.heap.size + 2, 0, none⟩ = some (.slice none 0 0) := EE.pr.cell 0
    have hfr := EE.pr.frozen 0
    have HA : Hid _ := EE.pr.set 0 (.slice none 0 0)
    have HB : Hid _ := EE.fr.setCell (p := ⟨w.heap.size + 2, 0, none⟩) (by simp only; omega) (.slice none 0 0)
    rw [hVV] at hcr hfr
    clear EE HQ0 HQ1 HF p1 p2 hVV
    go_wp2_with (first
      | (refine wpList_store_row rfl 51 _ _ rfl w1.heap.size (I64 S).toArray rfl rfl 51 _ q1 his (by simp [hSl]) (by simp [Value.oneCell']) ?_)
      | (refine wpList_store_row rfl 51 _ _ rfl (w1.heap.size + 1) (I64 T).toArray rfl rfl 51 _ q2 hit (by simp [hTl]) (by simp [Value.oneCell']) ?_))
    rw [← HV.out]
    exact bodyPost_ret (results_row_tmp (v := .bool false) (cs := [.slice none 0 0]) rfl rfl rfl HA.out Tryd.underlying25 rfl infoSc) rfl ⟨_, rfl, HE.out ▸ feT_nil _ _ _, HB.out⟩
  | true =>
    have HE : Hid (Q = R) := HQ1.out rfl
    have HY : Hid (∀ Z, Vr Z 0 (I64 OL) → Calls Tryd.prog 45 #[.agg (I64 S).toArray, .agg (I64 T).toArray] Z fun e w' => e = .returned (.agg (I64 R).toArray) ∧ Below Z.heap.size Z w') := HF.out rfl
    rw [hVV] at p1 p2
    clear HQ0 HQ1 HF hVV
    go_wp2_with (first
      | (refine wpList_store_row rfl 51 _ _ rfl w1.heap.size (I64 S).toArray rfl rfl 51 _ q1 his (by simp [hSl]) (by simp [Value.oneCell']) ?_)
      | (refine wpList_store_row rfl 51 _ _ rfl (w1.heap.size + 1) (I64 T).toArray rfl rfl 51 _ q2 hit (by simp [hTl]) (by simp [Value.oneCell']) ?_)
      | (refine wpList_load_row rfl 51 _ rfl w1.heap.size rfl 51 (I64 S).toArray (0, 0) _ p1 Tryd.underlying51 rfl his ?_)
      | (refine wpList_load_row rfl 51 _ rfl (w1.heap.size + 1) rfl 51 (I64 T).toArray (0, 0) _ p2 Tryd.underlying51 rfl hit ?_))
    rw [← HV.out]
    clear HV p1 p2 q1 q2
    refine (HY.out _ EE.vr).mono ?_
    rintro e w2 ⟨rfl, hb2⟩
    replace EE := EE.go hb2
    clear hb2 HY
    go_wp2_with (refine wpList_part rfl _ rfl R hRl rfl ?_)
    refine (implList R _ hRl).mono ?_
    rintro e w4 ⟨a', c', rfl, ho, hb4⟩
    have hlt := EE.pr.lt
    have hsz := EE.fr.size
    replace EE := EE.go hb4
    have HOW : Hid _ := own_base (own_other' ho ⟨w.heap.size + 2, 0, none⟩ (.slice a' 16 c') hlt) hsz
    have hcr : w4.cell? ⟨w.heap.size + 2, 0, none⟩ = some (.slice none 0 0) := EE.pr.cell 0
    have hfr := EE.pr.frozen 0
    have HA : Hid _ := EE.pr.set 0 (.slice a' 16 c')
    have HB : Hid _ := EE.fr.setCell (p := ⟨w.heap.size + 2, 0, none⟩) (by simp only; omega) (.slice a' 16 c')
    clear EE ho hb4 hsz hlt
    go_wp2
    exact bodyPost_ret (results_row_tmp (v := .bool true) (cs := [.slice a' 16 c']) rfl rfl rfl HA.out Tryd.underlying25 rfl infoSc) rfl ⟨_, rfl, HE.out ▸ feT_16 hRl HOW.out, HB.out⟩

end Go.Proofs.YtlafcjoccbinaaaDoor

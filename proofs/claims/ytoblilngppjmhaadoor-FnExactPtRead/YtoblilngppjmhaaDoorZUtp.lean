/-
  What is proved here: the contract of the specification's PtRead.
-/
import Derived.Test.YtoblilngppjmhaaDoorZUt
namespace Go.Proofs.YtoblilngppjmhaaDoor
open Go.RowKit
set_option maxRecDepth 100000

theorem rdC_len (bs : List Int) (hb : ∀ x ∈ bs, 0 ≤ x ∧ x < 256) : (rdC bs).length = 64 := by
  unfold rdC
  split
  · rename_i h
    obtain ⟨_, h2, h3⟩ := rdOk6_parts h
    exact E4.len (mk6_ok (xR_ok h3).1 (yR_ok hb h2))
  · rfl

set_option maxHeartbeats 8000000 in
theorem specPtRead (a : Option Addr) (n c : Nat) (bs : List Int) (w : World) (hx : Bs w a n c bs) :
    Calls Tryd.prog 50 #[.slice a n c] w fun e w' => ∃ v, e = .returned (.tuple #[v, .bool (rdOk6 bs)]) ∧ PtT 3 w w' v (rdX6 bs) (rdY6 bs) ∧ Below w.heap.size w w' := by
  have hby := hx.2.2.2.1
  obtain ⟨p, hp⟩ : ∃ p, p = rdOk6 bs := ⟨_, rfl⟩
  obtain ⟨L, hL⟩ : ∃ l, l = rdC bs := ⟨_, rfl⟩
  have nL : L.length = 64 := by rw [hL]; exact rdC_len bs hby
  have iL : (Tryd.prog.info? 108).map (·.size) = some (I64 L).toArray.size := by simpa [nL] using infoP6
  have HO : Hid (∀ Z, Below w.heap.size w Z → Calls Tryd.prog 99 #[.slice a n c] Z fun e w' => e = .returned (.tuple #[.agg (I64 L).toArray, .bool p]) ∧ Below Z.heap.size Z w') := by
    unfold Hid; intro Z hZ; rw [hL, hp]; exact spec6read a n c bs Z (hx.below hZ)
  obtain ⟨P, hP⟩ : ∃ P, P = mk6 (xR (yR bs) (odd6 bs)) (yR bs) := ⟨_, rfl⟩
  obtain ⟨x, ex⟩ : ∃ x, x = rdX6 bs := ⟨_, rfl⟩
  obtain ⟨y, ey⟩ : ∃ y, y = rdY6 bs := ⟨_, rfl⟩
  have HL : Hid (p = true → L = P.cells ∧ P.Ok ∧ flx P = x ∧ fly P = y) := by
    unfold Hid; intro h; rw [hp] at h; obtain ⟨_, h2, h3⟩ := rdOk6_parts h; have k1 := (xR_ok h3).1; have k2 := yR_ok hby h2
    refine ⟨by rw [hL, hP]; unfold rdC; rw [if_pos h], by rw [hP]; exact mk6_ok k1 k2, ?_, ?_⟩
    · rw [hP, ex, (flat_mk k1 k2).1]; unfold rdX6; rw [if_pos h]
    · rw [hP, ey, (flat_mk k1 k2).2]; unfold rdY6; rw [if_pos h]
  have HN : Hid (p = false → ∀ {w' : World}, PtT 3 w w' (.agg #[.slice none 0 0, .slice none 0 0]) x y) := by unfold Hid; intro h w'; rw [hp] at h; rw [ex, ey]; unfold rdX6 rdY6; rw [h]; exact ptT_nil _ _ _
  have HC : Hid (p = true → ∀ Z, Calls Tryd.prog 86 #[.agg (I64 P.cells).toArray] Z fun e w' => ∃ v, e = .returned v ∧ PtT 3 Z w' v x y ∧ Below Z.heap.size Z w') := by
    unfold Hid; intro h Z; obtain ⟨_, h2, h3, h4⟩ := HL.out h; rw [← h3, ← h4]; exact spec6out P Z h2
  have Hn : Hid (p = true → x.length = 16 ∧ y.length = 16) := by unfold Hid; intro h; obtain ⟨_, _, h3, h4⟩ := HL.out h; rw [← h3, ← h4]; exact ⟨red_len _, red_len _⟩
  rw [← hp, ← ex, ← ey]
  obtain ⟨W, hW⟩ : ∃ W, W = w.alloc (.cells #[.slice none 0 0, .slice none 0 0] 27) := ⟨_, rfl⟩
  have fr : Below w.heap.size w W := by rw [hW]; exact ((Below.refl _ _).alloc (Nat.le_refl _) _)
  have pr : Arr W w.heap.size 27 ([.slice none 0 0, .slice none 0 0]) := by
    rw [hW]
    have := Arr.new (w) ([.slice none 0 0, .slice none 0 0]) 27
    exact this
  clear hp hL hP ex ey hx
  go_enter Tryd.func50, Tryd.ntmps50
  go_upto_region 1 with fail
  rw [← hW]
  clear hW
  go_wp2_with fail
  refine (HO.out _ fr).mono ?_
  rintro e y1 ⟨rfl, hb1⟩
  replace fr := fr.trans (hb1.mono fr.size)
  replace pr := pr.kept hb1
  clear hb1
  have hXL : w.heap.size < y1.heap.size ∧ w.heap.size ≤ y1.heap.size := ⟨pr.lt, fr.size⟩
  obtain ⟨bV, AL, q1⟩ := laid_p6 y1 L
  replace fr := fr.trans (bV.mono fr.size)
  replace pr := pr.kept bV
  go_upto_region 2 with (refine wpList_store_row rfl 108 _ _ rfl y1.heap.size (I64 L).toArray rfl rfl 108 _ q1 iL (by simp [nL]) (by simp [Value.oneCell']) ?_)
  obtain ⟨V2, hVV⟩ : ∃ V, V = (y1.alloc (.cells #[.int .i64 0, .int .i64 0, .int .i64 0, .int .i64 0, .int .i64 0, .int .i64 0, .int .i64 0, .int .i64 0, .int .i64 0, .int .i64 0, .int .i64 0, .int .i64 0, .int .i64 0, .int .i64 0, .int .i64 0, .int .i64 0, .int .i64 0, .int .i64 0, .int .i64 0, .int .i64 0, .int .i64 0, .int .i64 0, .int .i64 0, .int .i64 0, .int .i64 0, .int .i64 0, .int .i64 0, .int .i64 0, .int .i64 0, .int .i64 0, .int .i64 0, .int .i64 0, .int .i64 0, .int .i64 0, .int .i64 0, .int .i64 0, .int .i64 0, .int .i64 0, .int .i64 0, .int .i64 0, .int .i64 0, .int .i64 0, .int .i64 0, .int .i64 0, .int .i64 0, .int .i64 0, .int .i64 0, .int .i64 0, .int .i64 0, .int .i64 0, .int .i64 0, .int .i64 0, .int .i64 0, .int .i64 0, .int .i64 0, .int .i64 0, .int .i64 0, .int .i64 0, .int .i64 0, .int .i64 0, .int .i64 0, .int .i64 0, .int .i64 0, .int .i64 0] 108)).setRow y1.heap.size (I64 L).toArray := ⟨_, rfl⟩
  obtain ⟨XL, hE⟩ : ∃ E, E = y1.heap.size := ⟨_, rfl⟩
  rw [← hVV] at fr pr AL ⊢
  rw [← hE] at AL hXL ⊢
  clear hVV hE q1 bV
  cases p with
  | false =>
    have h2 := pr.row ([.slice none 0 0, .slice none 0 0])
    have HB : Hid _ := setRow_below fr w.heap.size ([.slice none 0 0, .slice none 0 0]).toArray (by omega)
    go_wp2_with (refine wpList_store_row rfl 27 _ _ rfl w.heap.size ([Value.slice none 0 0,  Value.slice none 0 0]).toArray rfl rfl 27 _ pr infoPt rfl (by simp [Value.oneCell']) ?_)
    exact bodyPost_ret (results_row_tmp (v := .bool false) (cs := [.slice none 0 0, .slice none 0 0]) rfl rfl rfl h2 Tryd.underlying27 rfl infoPt) rfl ⟨_, rfl, HN.out (by simp), HB.out⟩
  | true =>
    obtain ⟨eL, hPo, _, _⟩ := HL.out (by simp)
    subst eL
    obtain ⟨nx, ny⟩ := Hn.out (by simp)
    go_wp2_with (refine wpList_load_row rfl 108 _ rfl XL rfl 108 (I64 P.cells).toArray (0, 0) _ AL Tryd.underlying108 rfl iL ?_)
    have hl : w.heap.size < V2.heap.size := pr.lt
    refine (HC.out (by simp) _).mono ?_
    rintro e y3 ⟨v, rfl, hpt, hb3⟩
    replace fr := fr.trans (hb3.mono fr.size)
    replace pr := pr.kept hb3
    replace AL := AL.kept hb3
    clear hb3
    obtain ⟨aa, ca, ab, cb, rfl, oa, ob, hap⟩ := hpt
    rw [nx, ny] at hap ⊢
    rw [nx] at oa
    rw [ny] at ob
    have ia := In.of oa
    have ib := In.of ob
    have HB : Hid _ := setRow_below fr w.heap.size ([.slice aa 16 ca, .slice ab 16 cb]).toArray (by omega)
    have h2 := pr.row ([.slice aa 16 ca, .slice ab 16 cb])
    have oa2 := own_rowM oa ia (.inl hl) ([.slice aa 16 ca, .slice ab 16 cb]).toArray
    have ob2 := own_rowM ob ib (.inl hl) ([.slice aa 16 ca, .slice ab 16 cb]).toArray
    go_wp2_with (refine wpList_store_row rfl 27 _ _ rfl w.heap.size ([Value.slice aa 16 ca,  Value.slice ab 16 cb]).toArray rfl rfl 27 _ pr infoPt rfl (by simp [Value.oneCell']) ?_)
    exact bodyPost_ret (results_row_tmp (v := .bool true) (cs := [.slice aa 16 ca, .slice ab 16 cb]) rfl rfl rfl h2 Tryd.underlying27 rfl infoPt) rfl ⟨_, rfl, ptT_16 nx ny (own_base oa2 (by omega)) (own_base ob2 (by omega)) hap, HB.out⟩

end Go.Proofs.YtoblilngppjmhaaDoor

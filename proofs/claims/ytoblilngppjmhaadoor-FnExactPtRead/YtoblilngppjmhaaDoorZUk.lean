/-
  What is proved here: contracts of the laws' szPt, toPt, eqPt, markPt, heldPt and samePt; bounds of the lists of a point, for the exact laws of chapter 6.
-/
import Derived.Test.YtoblilngppjmhaaDoorZUg
import Derived.Test.YtoblilngppjmhaaDoorZUi
import Derived.Test.YtoblilngppjmhaaDoorZJa
import Derived.Test.YtoblilngppjmhaaDoorZKc
namespace Go.Proofs.YtoblilngppjmhaaDoor
open Go.RowKit
set_option maxRecDepth 100000

set_option maxHeartbeats 1000000 in
theorem szPtC (a : Option Addr) (n c : Nat) (b : Option Addr) (m d : Nat) (l : Int) (w : World) (h0 : 0 ≤ l) (hl : l ≤ 1048576) (hn : n ≤ 9223372036854775807) (hm : m ≤ 9223372036854775807) :
    Calls Tryd.prog 33 #[.agg #[.slice a n c, .slice b m d], .int .i64 l] w fun e w' => ∃ r : Int, e = .returned (.int .i64 r) ∧ (r = -1 ∨ 0 ≤ r ∧ r ≤ l ∧ n ≤ 1048576 ∧ m ≤ 1048576) ∧ Below w.heap.size w w' := by
  obtain ⟨W, hW⟩ : ∃ W, W = w.alloc (.cells #[.slice a n c, .slice b m d] 52) := ⟨_, rfl⟩
  have fr : Below w.heap.size w W := by rw [hW]; exact (Below.refl _ _).alloc (Nat.le_refl _) _
  have pa : Arr W w.heap.size 52 [.slice a n c, .slice b m d] := by rw [hW]; exact Arr.new w [.slice a n c, .slice b m d] _
  go_enter Tryd.func33, Tryd.ntmps33
  go_upto_region 1 with fail
  rw [← hW]
  clear hW
  have c0 : W.cell? ⟨w.heap.size, 0, none⟩ = some (.slice a n c) := pa.cell 0
  go_wp2_with fail
  refine (szFeC a n c l _ h0 hl hn).mono ?_
  rintro e w1 ⟨r, rfl, hr, hb1⟩
  replace fr := fr.trans (hb1.mono fr.size)
  replace pa := pa.kept hb1
  clear c0 hb1
  rcases hr with rfl | ⟨h1, h2, h3⟩
  · go_wp2
    go_ret
    exact ⟨-1, rfl, .inl rfl, fr⟩
  · have hnl : ¬ (r < 0) := by omega
    have c1 : w1.cell? ⟨w.heap.size, 1, none⟩ = some (.slice b m d) := pa.cell 1
    go_wp2_with fail
    refine (szFeC b m d r _ h1 (by omega) hm).mono ?_
    rintro e w2 ⟨s, rfl, hs, hb2⟩
    replace fr := fr.trans (hb2.mono fr.size)
    clear c1 hb2 pa hnl
    rcases hs with rfl | ⟨h4, h5, h6⟩
    · go_wp2
      go_ret
      exact ⟨-1, rfl, .inl rfl, fr⟩
    · have hnl : ¬ (s < 0) := by omega
      go_wp2
      go_ret
      exact ⟨s, rfl, .inr ⟨h4, by omega, h3, h6⟩, fr⟩

set_option maxHeartbeats 1000000 in
theorem eqPtC (a a' : Option Addr) (n c c' : Nat) (xs : List Int) (b b' : Option Addr) (m d d' : Nat) (ys : List Int) (w : World) (h : Is w a n c xs) (h' : Is w a' n c' xs) (g : Is w b m d ys) (g' : Is w b' m d' ys) (hn : n ≤ 2097152) (hm : m ≤ 2097152) :
    Calls Tryd.prog 35 #[.agg #[.slice a n c, .slice b m d], .agg #[.slice a' n c', .slice b' m d']] w fun e w' => e = .returned (.bool true) ∧ Below w.heap.size w w' := by
  obtain ⟨W, hW⟩ : ∃ W, W = (w.alloc (.cells #[.slice a n c, .slice b m d] 27)).alloc (.cells #[.slice a' n c', .slice b' m d'] 27) := ⟨_, rfl⟩
  have fr : Below w.heap.size w W := by rw [hW]; exact ((Below.refl _ _).alloc (Nat.le_refl _) _).alloc (by simp) _
  have pa : Arr W w.heap.size 27 [.slice a n c, .slice b m d] := by rw [hW]; exact (Arr.new w [.slice a n c, .slice b m d] _).alloc _
  have pb : Arr W (w.heap.size + 1) 27 [.slice a' n c', .slice b' m d'] := by
    rw [hW]
    have := Arr.new (w.alloc (.cells #[.slice a n c, .slice b m d] 27)) [.slice a' n c', .slice b' m d'] 27
    rw [World.size_alloc] at this
    exact this
  go_enter Tryd.func35, Tryd.ntmps35
  go_upto_region 1 with fail
  rw [← hW]
  clear hW
  have c0 : W.cell? ⟨w.heap.size, 0, none⟩ = some (.slice a n c) := pa.cell 0
  have d0 : W.cell? ⟨w.heap.size + 1, 0, none⟩ = some (.slice a' n c') := pb.cell 0
  go_wp2_with fail
  refine (eqFeC a a' n c c' xs _ (h.below fr) (h'.below fr) hn).mono ?_
  rintro e w1 ⟨rfl, hb1⟩
  replace fr := fr.trans (hb1.mono fr.size)
  replace pa := pa.kept hb1
  replace pb := pb.kept hb1
  clear c0 d0 hb1
  have c1 : w1.cell? ⟨w.heap.size, 1, none⟩ = some (.slice b m d) := pa.cell 1
  have d1 : w1.cell? ⟨w.heap.size + 1, 1, none⟩ = some (.slice b' m d') := pb.cell 1
  go_wp2_with fail
  refine (eqFeC b b' m d d' ys _ (g.below fr) (g'.below fr) hm).mono ?_
  rintro e w2 ⟨rfl, hb2⟩
  replace fr := fr.trans (hb2.mono fr.size)
  clear c1 d1 hb2 pa pb
  go_wp2
  go_ret
  exact ⟨rfl, fr⟩

set_option maxHeartbeats 1000000 in
theorem heldPtC (a : Option Addr) (n c : Nat) (b : Option Addr) (m d : Nat) (k0 : Int) (w : World) (h : Is w a n c (marksI k0 n)) (g : Is w b m d (marksI (k0 + n) m)) (hn : n ≤ 2097152) (hm : m ≤ 2097152) (h0 : 0 ≤ k0) (h1 : k0 ≤ 7000000) :
    Calls Tryd.prog 38 #[.agg #[.slice a n c, .slice b m d], .int .i64 k0] w fun e w' => e = .returned (.int .i64 (k0 + n + m)) ∧ Below w.heap.size w w' := by
  obtain ⟨W, hW⟩ : ∃ W, W = w.alloc (.cells #[.slice a n c, .slice b m d] 27) := ⟨_, rfl⟩
  have fr : Below w.heap.size w W := by rw [hW]; exact (Below.refl _ _).alloc (Nat.le_refl _) _
  have pa : Arr W w.heap.size 27 [.slice a n c, .slice b m d] := by rw [hW]; exact Arr.new w [.slice a n c, .slice b m d] _
  have l1 : ¬ (k0 + (n : Int) < 0) := by omega
  have l2 : ¬ (k0 + (n : Int) + (m : Int) < 0) := by omega
  go_enter Tryd.func38, Tryd.ntmps38
  go_upto_region 1 with fail
  rw [← hW]
  clear hW
  have c0 : W.cell? ⟨w.heap.size, 0, none⟩ = some (.slice a n c) := pa.cell 0
  go_wp2_with fail
  refine (heldFeC a n c k0 _ (h.below fr) hn h0 (by omega)).mono ?_
  rintro e w1 ⟨rfl, hb1⟩
  replace fr := fr.trans (hb1.mono fr.size)
  replace pa := pa.kept hb1
  clear c0 hb1
  have c1 : w1.cell? ⟨w.heap.size, 1, none⟩ = some (.slice b m d) := pa.cell 1
  go_wp2_with fail
  refine (heldFeC b m d (k0 + n) _ (g.below fr) hm (by omega) (by omega)).mono ?_
  rintro e w2 ⟨rfl, hb2⟩
  replace fr := fr.trans (hb2.mono fr.size)
  clear c1 hb2 pa
  go_wp2
  go_ret
  exact ⟨rfl, fr⟩

set_option maxHeartbeats 1000000 in
theorem markPtC {ty tz : Nat} (B n : Nat) (u : Value) (xs : List Int) (B' m : Nat) (v : Value) (ys : List Int) (k0 : Int) (w : World) (ho : w.ownsRow B ty 1 u n (I64 xs)) (ho' : w.ownsRow B' tz 1 v m (I64 ys)) (hap : Apart u v) (hn : n ≤ 2097152) (hm : m ≤ 2097152) (h0 : 0 ≤ k0) (h1 : k0 ≤ 7000000) :
    Calls Tryd.prog 37 #[.agg #[u, v], .int .i64 k0] w fun e w' => e = .returned (.int .i64 (k0 + n + m)) ∧ ∃ M, w.grownBy M u.ownBlock ∧ M.grownBy w' v.ownBlock ∧ w'.ownsRow B ty 1 u n (I64 (marksI k0 n)) ∧ w'.ownsRow B' tz 1 v m (I64 (marksI (k0 + n) m)) := by
  obtain ⟨W, hW⟩ : ∃ W, W = w.alloc (.cells #[u, v] 27) := ⟨_, rfl⟩
  have fr : Below w.heap.size w W := by rw [hW]; exact (Below.refl _ _).alloc (Nat.le_refl _) _
  have pa : Arr W w.heap.size 27 [u, v] := by rw [hW]; exact Arr.new w [u, v] _
  have iu := In.of ho
  have iv := In.of ho'
  replace ho := own_below ho fr
  replace ho' := own_below ho' fr
  go_enter Tryd.func37, Tryd.ntmps37
  go_upto_region 1 with fail
  rw [← hW]
  clear hW
  have c0 : W.cell? ⟨w.heap.size, 0, none⟩ = some u := pa.cell 0
  go_wp2_with fail
  refine (markFeC B n u k0 xs _ ho hn h0 (by omega)).mono ?_
  rintro e w1 ⟨rfl, o1, g1⟩
  have q1 : Arr w1 w.heap.size 27 [u, v] := (g1.block _ pa.lt (fun e => by have := iu _ e.symm; omega)).trans pa
  have o2 := own_kept ho' g1 hap
  clear c0 ho ho' pa
  have c1 : w1.cell? ⟨w.heap.size, 1, none⟩ = some v := q1.cell 1
  go_wp2_with fail
  refine (markFeC B' m v (k0 + n) ys _ o2 hm (by omega) (by omega)).mono ?_
  rintro e w2 ⟨rfl, o3, g2⟩
  have o4 := own_kept o1 g2 hap.symm
  have hg : w.grownBy w1 u.ownBlock := ⟨g1.os.trans fr.os, g1.tape.trans fr.tape, g1.output.trans fr.output, Nat.le_trans fr.size g1.size, fun i hi hne => (g1.block i (Nat.lt_of_lt_of_le hi fr.size) hne).trans (fr.block i hi)⟩
  clear c1 o1 o2 q1
  go_wp2
  go_ret
  exact ⟨rfl, w1, hg, g2, o4, o3⟩

set_option maxHeartbeats 2000000 in
theorem toPtC (a : Option Addr) (n c : Nat) (xs : List Int) (b : Option Addr) (m d : Nat) (ys : List Int) (w : World) (h : Is w a n c xs) (g : Is w b m d ys) (hn : n ≤ 2097152) (hm : m ≤ 2097152) :
    Calls Tryd.prog 34 #[.agg #[.slice a n c, .slice b m d]] w fun e w' => ∃ a' c' b' d', e = .returned (.agg #[.slice a' n c', .slice b' m d']) ∧ w'.ownsRow w.heap.size 3 1 (.slice a' n c') n (I64 xs) ∧ w'.ownsRow w.heap.size 3 1 (.slice b' m d') m (I64 ys) ∧ Apart (.slice a' n c') (.slice b' m d') ∧ Below w.heap.size w w' := by
  obtain ⟨W, hW⟩ : ∃ W, W = ((w.alloc (.cells #[.slice a n c, .slice b m d] 52)).alloc (.cells #[.slice none 0 0, .slice none 0 0] 27)).alloc (.cells #[.slice none 0 0, .slice none 0 0] 27) := ⟨_, rfl⟩
  have fr : Below w.heap.size w W := by rw [hW]; exact (((Below.refl _ _).alloc (Nat.le_refl _) _).alloc (by simp) _).alloc (by simp; omega) _
  have pa : Arr W w.heap.size 52 [.slice a n c, .slice b m d] := by rw [hW]; exact ((Arr.new w [.slice a n c, .slice b m d] _).alloc _).alloc _
  have pr : Arr W (w.heap.size + 1) 27 [.slice none 0 0, .slice none 0 0] := by
    rw [hW]
    have := (Arr.new (w.alloc (.cells #[.slice a n c, .slice b m d] 52)) [.slice none 0 0, .slice none 0 0] 27).alloc (.cells #[.slice none 0 0, .slice none 0 0] 27)
    rw [World.size_alloc] at this
    exact this
  have po : Arr W (w.heap.size + 2) 27 [.slice none 0 0, .slice none 0 0] := by
    rw [hW]
    have := Arr.new ((w.alloc (.cells #[.slice a n c, .slice b m d] 52)).alloc (.cells #[.slice none 0 0, .slice none 0 0] 27)) [.slice none 0 0, .slice none 0 0] 27
    rw [World.size_alloc, World.size_alloc] at this
    exact this
  go_enter Tryd.func34, Tryd.ntmps34
  go_upto_region 2 with fail
  rw [← hW]
  clear hW
  have c0 : W.cell? ⟨w.heap.size, 0, none⟩ = some (.slice a n c) := pa.cell 0
  have l0 := po.lt
  go_wp2_with fail
  refine (toFeC a n c xs _ (h.below fr) hn).mono ?_
  rintro e w1 ⟨a1, c1, rfl, o1, _, hb1⟩
  replace fr := fr.trans (hb1.mono fr.size)
  replace pa := pa.kept hb1
  replace pr := pr.kept hb1
  replace po := po.kept hb1
  have i1 := In.of o1
  have e0 : w1.cell? ⟨w.heap.size + 2, 0, none⟩ = some (.slice none 0 0) := po.cell 0
  have f0 := po.frozen 0
  replace po := po.set 0 (.slice a1 n c1)
  replace pa := pa.other ⟨w.heap.size + 2, 0, none⟩ (.slice a1 n c1) (by simp)
  replace pr := pr.other ⟨w.heap.size + 2, 0, none⟩ (.slice a1 n c1) (by simp)
  replace fr := fr.setCell (p := ⟨w.heap.size + 2, 0, none⟩) (by simp only; omega) (.slice a1 n c1)
  replace o1 := own_other' o1 ⟨w.heap.size + 2, 0, none⟩ (.slice a1 n c1) l0
  have z1 := hb1.size
  clear c0 hb1
  go_upto_region 3 with fail
  obtain ⟨V, hV⟩ : ∃ V, V = w1.setCell ⟨w.heap.size + 2, 0, none⟩ (.slice a1 n c1) := ⟨_, rfl⟩
  have zV : V.heap.size = w1.heap.size := by rw [hV]; simp
  rw [← hV] at po pa pr fr o1 ⊢
  clear hV e0 f0
  have c1' : V.cell? ⟨w.heap.size, 1, none⟩ = some (.slice b m d) := pa.cell 1
  have l1 := po.lt
  go_wp2_with fail
  refine (toFeC b m d ys _ (g.below fr) hm).mono ?_
  rintro e w2 ⟨a2, c2, rfl, o2, _, hb2⟩
  replace fr := fr.trans (hb2.mono fr.size)
  replace pr := pr.kept hb2
  replace po := po.kept hb2
  replace o1 := own_below o1 hb2
  have i2 := In.of o2
  have hap : Apart (.slice a1 n c1) (.slice a2 m c2) := i1.apart i2 (.inl (by omega))
  have e1 : w2.cell? ⟨w.heap.size + 2, 1, none⟩ = some (.slice none 0 0) := po.cell 1
  have f1 := po.frozen 1
  replace po : Arr _ (w.heap.size + 2) 27 [.slice a1 n c1, .slice a2 m c2] := po.set 1 (.slice a2 m c2)
  replace pr := pr.other ⟨w.heap.size + 2, 1, none⟩ (.slice a2 m c2) (by simp)
  replace fr := fr.setCell (p := ⟨w.heap.size + 2, 1, none⟩) (by simp only; omega) (.slice a2 m c2)
  replace o1 := own_other' o1 ⟨w.heap.size + 2, 1, none⟩ (.slice a2 m c2) l0
  replace o2 := own_other' o2 ⟨w.heap.size + 2, 1, none⟩ (.slice a2 m c2) l1
  clear c1' hb2 pa
  go_upto_region 4 with fail
  obtain ⟨U, hU⟩ : ∃ U, U = w2.setCell ⟨w.heap.size + 2, 1, none⟩ (.slice a2 m c2) := ⟨_, rfl⟩
  rw [← hU] at po pr fr o1 o2 ⊢
  clear hU e1 f1
  have h2 := pr.row [.slice a1 n c1, .slice a2 m c2]
  have HB : Hid _ := setRow_below fr (w.heap.size + 1) ([.slice a1 n c1, .slice a2 m c2] : List Value).toArray (by omega)
  have HO1 : Hid _ := own_rowM o1 i1 (E := w.heap.size + 1) (.inl (by omega)) ([.slice a1 n c1, .slice a2 m c2] : List Value).toArray
  have HO2 : Hid _ := own_rowM o2 i2 (E := w.heap.size + 1) (.inl (by omega)) ([.slice a1 n c1, .slice a2 m c2] : List Value).toArray
  clear o1 o2 fr
  go_wp2_with (first
    | (refine wpList_load_row rfl 27 _ rfl (w.heap.size + 2) rfl 27 ([Value.slice a1 n c1, Value.slice a2 m c2]).toArray (0, 0) _ po Tryd.underlying27 rfl infoPt ?_)
    | (refine wpList_store_row rfl 27 _ _ rfl (w.heap.size + 1) ([Value.slice a1 n c1, Value.slice a2 m c2]).toArray rfl rfl 27 _ pr infoPt rfl (by simp [Value.oneCell']) ?_))
  exact bodyPost_ret (results_cell_row rfl _ _ (w.heap.size + 1) 27 #[.slice a1 n c1, .slice a2 m c2] (0, 0) _ rfl h2 Tryd.underlying27 rfl infoPt) rfl ⟨a1, c1, a2, c2, rfl, own_base HO1.out (by omega), own_base HO2.out (by omega), hap, HB.out⟩
end Go.Proofs.YtoblilngppjmhaaDoor
namespace Go.Proofs.YtoblilngppjmhaaDoor
open Go.RowKit
theorem infoPtL : (Tryd.prog.info? 52).map (·.size) = some 2 := by kernel_rfl
end Go.Proofs.YtoblilngppjmhaaDoor

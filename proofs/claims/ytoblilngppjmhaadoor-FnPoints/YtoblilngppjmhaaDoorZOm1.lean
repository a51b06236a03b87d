/-
  What is proved here: what the program's PtAdd answers where its arguments are points; where its variables hold the prime and d; the contract of the program's PtZero; what the program's PtTwice, PtNeg and PtZero answer, as points of the curve; where its variables hold the prime and d; the contract of the specification's DrawPtAdd.
-/
import Derived.Test.YtoblilngppjmhaaDoorZOm0
import Derived.Test.YtoblilngppjmhaaDoorZOha
import Derived.Test.YtoblilngppjmhaaDoorZOf
import Derived.Test.YtoblilngppjmhaaDoorZUg
import Derived.Test.YtoblilngppjmhaaDoorZUi
import Derived.Test.YtoblilngppjmhaaDoorZJa
import Derived.Test.YtoblilngppjmhaaDoorZOhn
import Derived.Test.YtoblilngppjmhaaDoorZOht
import Derived.Test.YtoblilngppjmhaaDoorZUn
namespace Go.Proofs.YtoblilngppjmhaaDoor
open Go.RowKit
set_option maxRecDepth 100000
set_option maxHeartbeats 4000000
set_option linter.unusedSectionVars false

section
variable [NeZero pN]
theorem okPAdd (a : Option Addr) (c : Nat) (b : Option Addr) (d : Nat) (P : KF × KF) (a' : Option Addr) (c' : Nat) (b' : Option Addr) (d' : Nat) (Q : KF × KF) (w : World) (h : PI w a c b d P) (k : PI w a' c' b' d' Q) (hP : On dK P) (hQ : On dK Q) (hV : Vr w 4 (I64 PL)) (hD : Vr w 2 (I64 DL)) :
    Calls Tryd.prog 15 #[.agg #[.slice a 16 c, .slice b 16 d], .agg #[.slice a' 16 c', .slice b' 16 d']] w fun e w' => ∃ a1 c1 b1 d1, e = .returned (.tuple #[.agg #[.slice a1 16 c1, .slice b1 16 d1], .bool true]) ∧ PI w' a1 c1 b1 d1 (pAdd dK ivK P Q) ∧ Below w.heap.size w w' := by
  refine (implPtAdd a 16 c (cx P.1) b 16 d (cx P.2) a' 16 c' (cx Q.1) b' 16 d' (cx Q.2) w h.x h.y k.x k.y hV hD).mono ?_
  rintro e w1 ⟨v, rfl, hv, hb⟩
  have e1 := okpt hP
  have e2 := okpt hQ
  obtain ⟨m1, m2⟩ := pt_add e1 e2
  rw [pt_back, pt_back] at m1 m2
  rw [e1, e2] at hv ⊢
  obtain ⟨a1, c1, b1, d1, rfl, hp⟩ := PI.of (P := pAdd dK ivK P Q) hv m1 m2
  exact ⟨a1, c1, b1, d1, rfl, hp, hb⟩
end
end Go.Proofs.YtoblilngppjmhaaDoor
namespace Go.Proofs.YtoblilngppjmhaaDoor
open Go.RowKit
set_option maxRecDepth 100000

set_option maxHeartbeats 4000000 in
theorem implPtZero (w : World)  :
    Calls Tryd.prog 16 #[] w fun e w' => ∃ v, e = .returned v ∧ PtT 70 w w' v (lim 16 0) (lim 16 1) ∧ Below w.heap.size w w' := by
  have HC : Hid (∀ Z, Calls Tryd.prog 58 #[.agg #[.int .i64 0, .int .i64 0, .int .i64 0, .int .i64 0, .int .i64 0, .int .i64 0, .int .i64 0, .int .i64 0, .int .i64 0, .int .i64 0, .int .i64 0, .int .i64 0, .int .i64 0, .int .i64 0, .int .i64 0, .int .i64 0], .agg #[.int .i64 1, .int .i64 0, .int .i64 0, .int .i64 0, .int .i64 0, .int .i64 0, .int .i64 0, .int .i64 0, .int .i64 0, .int .i64 0, .int .i64 0, .int .i64 0, .int .i64 0, .int .i64 0, .int .i64 0, .int .i64 0]] Z fun e w' => ∃ v, e = .returned v ∧ PtT 70 Z w' v (lim 16 0) (lim 16 1) ∧ Below Z.heap.size Z w') := by
    unfold Hid; intro Z; have := implPtOf (lim 16 0) (lim 16 1) Z (lim_len _ _) (lim_len _ _); rw [zero_lim, one_lim] at this ⊢; exact this
  obtain ⟨x, ex⟩ : ∃ x, x = lim 16 0 := ⟨_, rfl⟩
  obtain ⟨y, ey⟩ : ∃ y, y = lim 16 1 := ⟨_, rfl⟩
  have nx : x.length = 16 := by rw [ex]; rfl
  have ny : y.length = 16 := by rw [ey]; rfl
  rw [← ex, ← ey] at HC ⊢
  clear ex ey
  obtain ⟨W, hW⟩ : ∃ W, W = w.alloc (.cells #[.slice none 0 0, .slice none 0 0] 27) := ⟨_, rfl⟩
  have fr : Below w.heap.size w W := by rw [hW]; exact ((Below.refl _ _).alloc (Nat.le_refl _) _)
  have pr : Arr W w.heap.size 27 ([.slice none 0 0, .slice none 0 0]) := by
    rw [hW]
    have := Arr.new (w) ([.slice none 0 0, .slice none 0 0]) 27
    exact this
  go_enter Tryd.func16, Tryd.ntmps16
  go_upto_region 1 with fail
  rw [← hW]
  clear hW
  go_wp2_with fail
  have hl : w.heap.size < W.heap.size := pr.lt
  refine (HC.out _).mono ?_
  rintro e y1 ⟨v, rfl, hpt, hb1⟩
  replace fr := fr.trans (hb1.mono fr.size)
  replace pr := pr.kept hb1
  clear hb1
  obtain ⟨aa, ca, ab, cb, rfl, oa, ob, hap⟩ := hpt
  rw [nx, ny] at hap ⊢
  rw [nx] at oa
  rw [ny] at ob
  have ia := In.of oa
  have ib := In.of ob
  have HB : Hid _ := setRow_below fr w.heap.size ([.slice aa 16 ca, .slice ab 16 cb]).toArray (by omega)
  have h2 := pr.row ([.slice aa 16 ca, .slice ab 16 cb])
  have oa2 := own_rowM oa ia (.inl hl) ([.slice aa 16 ca, .slice ab 16 cb]).toArray
  have ob2 := own_rowM ob ib (.inl hl) ([.slice aa 16 ca, .slice ab 16 cb]).toArray
  go_wp2_with (refine wpList_store_row rfl 27 _ _ rfl w.heap.size ([Value.slice aa 16 ca,  Value.slice ab 16 cb]).toArray rfl rfl 27 _ pr infoPt rfl (by simp [Value.oneCell']) ?_)
  exact bodyPost_ret (results_cell_row rfl _ _ w.heap.size 27 #[.slice aa 16 ca, .slice ab 16 cb] (0, 0) _ rfl h2 Tryd.underlying27 rfl infoPt) rfl ⟨_, rfl, ptT_16 nx ny (own_base oa2 (by omega)) (own_base ob2 (by omega)) hap, HB.out⟩

end Go.Proofs.YtoblilngppjmhaaDoor
namespace Go.Proofs.YtoblilngppjmhaaDoor
open Go.RowKit
set_option maxRecDepth 100000
set_option maxHeartbeats 4000000
set_option linter.unusedSectionVars false

section
variable [NeZero pN]
theorem okPTwice (a : Option Addr) (c : Nat) (b : Option Addr) (d : Nat) (P : KF × KF) (w : World) (h : PI w a c b d P) (hP : On dK P) (hV : Vr w 4 (I64 PL)) (hD : Vr w 2 (I64 DL)) :
    Calls Tryd.prog 20 #[.agg #[.slice a 16 c, .slice b 16 d]] w fun e w' => ∃ a1 c1 b1 d1, e = .returned (.tuple #[.agg #[.slice a1 16 c1, .slice b1 16 d1], .bool true]) ∧ PI w' a1 c1 b1 d1 (pAdd dK ivK P P) ∧ Below w.heap.size w w' := by
  refine (implPtTwice a 16 c (cx P.1) b 16 d (cx P.2) w h.x h.y hV hD).mono ?_
  rintro e w1 ⟨v, rfl, hv, hb⟩
  have e1 := okpt hP
  obtain ⟨m1, m2⟩ := pt_add e1 e1
  rw [pt_back] at m1 m2
  rw [e1] at hv ⊢
  obtain ⟨a1, c1, b1, d1, rfl, hp⟩ := PI.of (P := pAdd dK ivK P P) hv m1 m2
  exact ⟨a1, c1, b1, d1, rfl, hp, hb⟩
theorem okPNeg (a : Option Addr) (c : Nat) (b : Option Addr) (d : Nat) (P : KF × KF) (w : World) (h : PI w a c b d P) (hP : On dK P) (hV : Vr w 4 (I64 PL)) (hD : Vr w 2 (I64 DL)) :
    Calls Tryd.prog 19 #[.agg #[.slice a 16 c, .slice b 16 d]] w fun e w' => ∃ a1 c1 b1 d1, e = .returned (.tuple #[.agg #[.slice a1 16 c1, .slice b1 16 d1], .bool true]) ∧ PI w' a1 c1 b1 d1 (pNeg P) ∧ Below w.heap.size w w' := by
  refine (implPtNeg a 16 c (cx P.1) b 16 d (cx P.2) w h.x h.y hV hD).mono ?_
  rintro e w1 ⟨v, rfl, hv, hb⟩
  have e1 := okpt hP
  obtain ⟨m1, m2⟩ := pt_neg (cx P.1) (cx P.2)
  rw [pt_back] at m1 m2
  rw [e1] at hv ⊢
  obtain ⟨a1, c1, b1, d1, rfl, hp⟩ := PI.of (P := pNeg P) hv m1 m2
  exact ⟨a1, c1, b1, d1, rfl, hp, hb⟩
theorem okPZero (w : World) : Calls Tryd.prog 16 #[] w fun e w' => ∃ a1 c1 b1 d1, e = .returned (.agg #[.slice a1 16 c1, .slice b1 16 d1]) ∧ PI w' a1 c1 b1 d1 (pZero : KF × KF) ∧ Below w.heap.size w w' := by
  refine (implPtZero w).mono ?_
  rintro e w1 ⟨v, rfl, hv, hb⟩
  have m1 : lim 16 0 = cx (pZero : KF × KF).1 := by
    have h := cx_fl zero_ok
    rw [fl_zero] at h
    exact h.symm
  have m2 : lim 16 1 = cx (pZero : KF × KF).2 := by
    have h := cx_fl one_ok
    rw [fl_one] at h
    exact h.symm
  obtain ⟨a1, c1, b1, d1, rfl, hp⟩ := PI.of (P := pZero) hv m1 m2
  exact ⟨a1, c1, b1, d1, rfl, hp, hb⟩
end
end Go.Proofs.YtoblilngppjmhaaDoor
namespace Go.Proofs.YtoblilngppjmhaaDoor
open Go.RowKit
set_option maxRecDepth 100000

/-- A block's row is written: what lies elsewhere stays. -/
theorem row_grown (w : World) (b : Nat) (cs : Array Value) : w.grownBy (w.setRow b cs) (some b) :=
  have hq := setRow_below (B := b) (w := w) (w' := w) (Below.refl _ _) b cs (Nat.le_refl _)
  ⟨hq.os, hq.tape, hq.output, hq.size, fun k _ hne => setRow_other w b k _ (fun e => hne (by rw [e]))⟩
theorem arr_grown {X Y : World} {b k : Nat} {t : TypeId} {cs : List Value} (h : Arr X k t cs) (hg : X.grownBy Y (some b)) (hne : k ≠ b) : Arr Y k t cs := by
  have := hg.block k h.lt (fun e => hne (Option.some.inj e))
  unfold Arr at h ⊢
  rw [← this] at h
  exact h
theorem results_two' {P : Program} {fn : Func} {p q : Tmp} {ty tz : TypeId} {w : World} {g k : Nat} {t s : TypeId} {cs ds : List Value} {d d' : TypeDesc} {tmps : Array Value} (h : fn.results = #[.cell p ty, .cell q tz])
    (hp : tmps.getD p undef = .pointer (some ⟨g, 0, none⟩)) (hq : tmps.getD q undef = .pointer (some ⟨k, 0, none⟩)) (hg : Arr w g t cs) (hk : Arr w k s ds) (hu : P.underlying ty = some d) (hd : (match d with | .struct _ | .array _ _ => true | _ => false) = true) (hu' : P.underlying tz = some d') (hd' : (match d' with | .struct _ | .array _ _ => true | _ => false) = true) (hi : (P.info? ty).map (·.size) = some cs.length) (hj : (P.info? tz).map (·.size) = some ds.length) :
    (results fn tmps).run P w = .ok (.tuple #[.agg cs.toArray, .agg ds.toArray]) w := by
  have hl := run_loadVar_row (P := P) w g t ty cs.toArray (0, 0) d hg hu hd (by simpa using hi)
  have hm := run_loadVar_row (P := P) w k s tz ds.toArray (0, 0) d' hk hu' hd' (by simpa using hj)
  have hp' : tmps[p]?.getD undef = .pointer (some ⟨g, 0, none⟩) := by simpa using hp
  have hq' : tmps[q]?.getD undef = .pointer (some ⟨k, 0, none⟩) := by simpa using hq
  simp only [results, h]
  simp [Sem.run_bind, hp', hq', asAddr, Result.andThen, hl, hm]

set_option maxHeartbeats 2000000 in
theorem drawPtAdd (a : Option Addr) (n c : Nat) (xs : List Int) (w : World) (h : Bs w a n c xs) (hm : n ≤ 9223372036854775807) :
    Calls Tryd.prog 14 #[.slice a n c] w fun e w' => ∃ v l1 l2 u m1 m2, e = .returned (.tuple #[v, u]) ∧ PtV w w' v l1 l2 ∧ PtV w w' u m1 m2 ∧ Below w.heap.size w w' := by
  obtain ⟨W, hW⟩ : ∃ W, W = (w.alloc (.cells #[.slice none 0 0, .slice none 0 0] 27)).alloc (.cells #[.slice none 0 0, .slice none 0 0] 27) := ⟨_, rfl⟩
  have z0 : Arr W w.heap.size 27 [.slice none 0 0, .slice none 0 0] := by rw [hW]; exact (Arr.new w [.slice none 0 0, .slice none 0 0] _).alloc _
  have y0 : Arr W (w.heap.size + 1) 27 [.slice none 0 0, .slice none 0 0] := by
    rw [hW]
    have := Arr.new (w.alloc (.cells #[.slice none 0 0, .slice none 0 0] 27)) [.slice none 0 0, .slice none 0 0] 27
    rw [World.size_alloc] at this
    exact this
  have gB : Below w.heap.size w W := by rw [hW]; exact ((Below.refl _ _).alloc (Nat.le_refl _) _).alloc (by simp) _
  go_enter Tryd.func14, Tryd.ntmps14
  go_wp2_with fail
  rw [← hW]
  clear hW
  refine (curNew a n c xs _ (h.below gB) hm).mono ?_
  rintro e w1 ⟨rfl, c1, d1, hs1, hb1⟩
  have l0 := y0.lt
  have z1 := z0.kept hb1
  have y1 := y0.kept hb1
  have gB1 := gB.trans (hb1.mono gB.size)
  clear z0 y0
  go_wp2_with fail
  refine (curBent6 W.heap.size a n c xs _ c1 d1).mono ?_
  rintro e w2 ⟨v, l1, l2, rfl, ⟨a1, n1, e1, a2, n2, e2, rfl, i1, i2, f1, f2, b1, b2⟩, c2, g2⟩
  have d2 := d1.grown g2
  have z2 := arr_cur z1 g2 (by omega)
  have y2 := arr_cur y1 g2 (by omega)
  have gB2 : Below w.heap.size w w2 := gB1.grown g2 (by omega) (fun k hk => by have := Option.some.inj hk; omega)
  go_wp2_with fail
  refine (curBent6 W.heap.size a n c xs _ c2 d2).mono ?_
  rintro e w3 ⟨u, m1, m2, rfl, ⟨a3, n3, e3, a4, n4, e4, rfl, i3, i4, f3, f4, b3, b4⟩, c3, g3⟩
  have z3 := arr_cur z2 g3 (by omega)
  have y3 := arr_cur y2 g3 (by omega)
  have gB3 : Below w.heap.size w w3 := gB2.grown g3 gB2.size (fun k hk => by have := Option.some.inj hk; omega)
  replace i1 := is_cur i1 g3 f1 (by omega)
  replace i2 := is_cur i2 g3 f2 (by omega)
  have hz := g2.size
  have q1 := row_grown w3 w.heap.size #[.slice a1 n1 e1, .slice a2 n2 e2]
  have Z4 := z3.row [.slice a1 n1 e1, .slice a2 n2 e2]
  have Y4 := arr_grown y3 q1 (by omega)
  have B4 := setRow_below gB3 w.heap.size #[.slice a1 n1 e1, .slice a2 n2 e2] (Nat.le_refl _)
  have I1 := is_cur i1 q1 f1 (by omega)
  have I2 := is_cur i2 q1 f2 (by omega)
  have I3 := is_cur i3 q1 f3 (by omega)
  have I4 := is_cur i4 q1 f4 (by omega)
  obtain ⟨w4, hw4⟩ : ∃ w4, w4 = w3.setRow w.heap.size #[.slice a1 n1 e1, .slice a2 n2 e2] := ⟨_, rfl⟩
  have hw5 : w4 = w3.setRow w.heap.size ([Value.slice a1 n1 e1, Value.slice a2 n2 e2]).toArray := hw4
  rw [← hw4] at B4 I1 I2 I3 I4 q1 Y4
  rw [← hw5] at Z4
  have q2 := row_grown w4 (w.heap.size + 1) #[.slice a3 n3 e3, .slice a4 n4 e4]
  have HZ : Hid _ := arr_grown Z4 q2 (by omega)
  have HY : Hid _ := Y4.row [.slice a3 n3 e3, .slice a4 n4 e4]
  have HB : Hid _ := setRow_below B4 (w.heap.size + 1) #[.slice a3 n3 e3, .slice a4 n4 e4] (by omega)
  have HI : Hid (PtV w (w4.setRow (w.heap.size + 1) #[.slice a3 n3 e3, .slice a4 n4 e4]) (.agg #[.slice a1 n1 e1, .slice a2 n2 e2]) l1 l2) :=
    ⟨a1, n1, e1, a2, n2, e2, rfl, is_cur I1 q2 f1 (by omega), is_cur I2 q2 f2 (by omega), fun k o s e => by have := f1 k o s e; omega, fun k o s e => by have := f2 k o s e; omega, b1, b2⟩
  have HJ : Hid (PtV w (w4.setRow (w.heap.size + 1) #[.slice a3 n3 e3, .slice a4 n4 e4]) (.agg #[.slice a3 n3 e3, .slice a4 n4 e4]) m1 m2) :=
    ⟨a3, n3, e3, a4, n4, e4, rfl, is_cur I3 q2 f3 (by omega), is_cur I4 q2 f4 (by omega), fun k o s e => by have := f3 k o s e; omega, fun k o s e => by have := f4 k o s e; omega, b3, b4⟩
  clear z1 z2 y1 y2 gB gB1 gB2 gB3 c1 d1 c2 d2 g2 c3 g3 i1 i2 i3 i4 f1 f2 f3 f4 hb1 h Z4 B4 I1 I2 I3 I4 q1 q2 y3
  go_wp2_with (first
    | (refine wpList_store_row rfl 27 _ _ rfl w.heap.size ([Value.slice a1 n1 e1, Value.slice a2 n2 e2]).toArray rfl rfl 27 _ z3 infoPt rfl (by simp [Value.oneCell']) ?_; rw [← hw5])
    | (refine wpList_store_row rfl 27 _ _ rfl (w.heap.size + 1) ([Value.slice a3 n3 e3, Value.slice a4 n4 e4]).toArray rfl rfl 27 _ Y4 infoPt rfl (by simp [Value.oneCell']) ?_))
  exact bodyPost_ret (results_two (cs := [.slice a1 n1 e1, .slice a2 n2 e2]) (ds := [.slice a3 n3 e3, .slice a4 n4 e4]) rfl rfl rfl HZ.out HY.out Tryd.underlying27 rfl infoPt infoPt) rfl ⟨_, l1, l2, _, m1, m2, rfl, HI.out, HJ.out, HB.out⟩
end Go.Proofs.YtoblilngppjmhaaDoor

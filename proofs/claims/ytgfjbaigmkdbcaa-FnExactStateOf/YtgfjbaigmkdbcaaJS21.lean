/-
  What is proved here: what the laws' toDevice, eqDevice, szDevice answer; what the specification's functions that only read a flash answer: FlashOk, l9in, l9blank, l9mask; what the program's functions that only read a flash answer: isNoWear, isWritten, isPlace, isAcross, maskAt, slices.IndexFunc and slices.ContainsFunc at them, FlashOk; rows of four cells in memory, and what a list is that is ok and ascends; no program is spoken of.
-/
import Derived.Test.YtgfjbaigmkdbcaaJS18
import Derived.Test.YtgfjbaigmkdbcaaJS20
import Derived.Test.YtgfjbaigmkdbcaaJS9
import Derived.Test.YtgfjbaigmkdbcaaJS16
import Derived.Test.YtgfjbaigmkdbcaaJS17
import Derived.Test.YtgfjbaigmkdbcaaJS4
import Derived.Test.YtgfjbaigmkdbcaaJS1
import Derived.Test.YtgfjbaigmkdbcaaTm
namespace Go.Proofs.Ytgfjbaigmkdbcaa
open Go.RowKit
set_option maxRecDepth 100000
set_option maxHeartbeats 4000000
set_option linter.unusedVariables false

structure DeviceM where
  i : Int
  k : List KeyM
  f : FlashM
structure DeviceA where
  k : SlA
  f : FlashA
abbrev devV (m : DeviceM) (p : DeviceA) : Value := .agg #[.int .i64 m.i, .slice p.k.a m.k.length p.k.c, .slice p.f.b.a m.f.b.length p.f.b.c, .slice p.f.w.a m.f.w.length p.f.w.c]
abbrev devC (m : DeviceM) (p : DeviceA) : List Value := [.int .i64 m.i, .slice p.k.a m.k.length p.k.c, .slice p.f.b.a m.f.b.length p.f.b.c, .slice p.f.w.a m.f.w.length p.f.w.c]
structure DeviceRd (W : World) (p : DeviceA) (m : DeviceM) : Prop where
  k : Ks W p.k.a m.k.length p.k.c m.k
  f : FlashRd W p.f m.f
theorem DeviceRd.below {W W' : World} {p : DeviceA} {m : DeviceM} (h : DeviceRd W p m) (hb : Below W.heap.size W W') : DeviceRd W' p m := ⟨h.k.below hb, h.f.below hb⟩
structure DeviceOw (lo : Nat) (W : World) (p : DeviceA) (m : DeviceM) : Prop where
  k : Kq lo W p.k.a m.k.length p.k.c m.k
  f : FlashOw lo W p.f m.f
section
variable {lo lo' : Nat} {W W' : World} {p : DeviceA} {m : DeviceM}
theorem DeviceOw.below (h : DeviceOw lo W p m) (hb : Below W.heap.size W W') : DeviceOw lo W' p m := ⟨(h.k.below hb), (h.f.below hb)⟩
theorem DeviceOw.other (h : DeviceOw lo W p m) (q : Addr) (u : Value) (hq : q.block < lo) : DeviceOw lo (W.setCell q u) p m := ⟨(h.k.other q u hq), (h.f.other q u hq)⟩
theorem DeviceOw.base (h : DeviceOw lo W p m) (hl : lo' ≤ lo) : DeviceOw lo' W p m := ⟨(h.k.base hl), (h.f.base hl)⟩
structure DeviceBy (m : DeviceM) : Prop where
  k : KqBy m.k
  f : FlashBy m.f
theorem DeviceRd.by_ (h : DeviceRd W p m) : DeviceBy m := ⟨h.k.by_, h.f.by_⟩
theorem DeviceOw.rd (h : DeviceOw lo W p m) (y : DeviceBy m) : DeviceRd W p m := ⟨h.k.rd y.k, h.f.rd y.f⟩
end
structure DeviceLn (m : DeviceM) : Prop where
  k : (m.k.length ≤ 9223372036854775807 ∧ ∀ q, q < m.k.length → (m.k.getD q kz).p.length ≤ 9223372036854775807)
  f : FlashLn m.f
structure DeviceSm (m : DeviceM) : Prop where
  k : KqSm m.k.length m.k
  f : FlashSm m.f
theorem szDeviceC (m : DeviceM) (p : DeviceA) (l : Int) (w : World) (h : DeviceRd w p m) (h0 : 0 ≤ l) (h1 : l ≤ 1048576) (hn : DeviceLn m) :
    Calls Try.prog 47 #[devV m p, .int .i64 l] w fun e w' => ∃ r : Int, e = .returned (.int .i64 r) ∧ (r = -1 ∨ 0 ≤ r ∧ r ≤ l ∧ DeviceSm m) ∧ Below w.heap.size w w' := by
  obtain ⟨V, hV⟩ : ∃ V, V = w.alloc (.cells #[.int .i64 m.i, .slice p.k.a m.k.length p.k.c, .slice p.f.b.a m.f.b.length p.f.b.c, .slice p.f.w.a m.f.w.length p.f.w.c] 65) := ⟨_, rfl⟩
  have B : Below w.heap.size w V := by rw [hV]; exact (Below.refl _ _).alloc (Nat.le_refl _) _
  have A : Arr V w.heap.size 65 [.int .i64 m.i, .slice p.k.a m.k.length p.k.c, .slice p.f.b.a m.f.b.length p.f.b.c, .slice p.f.w.a m.f.w.length p.f.w.c] := by rw [hV]; exact Arr.new _ _ _
  have H : Hid (DeviceRd w p m ∧ DeviceLn m) := ⟨h, hn⟩
  clear h hn
  go_enter Try.func47, Try.ntmps47
  go_wp2_with fail
  rw [← hV]
  clear hV
  refine (szKeySC p.k.a m.k.length p.k.c m.k l _ ((H.out.1.k).below B) h0 (by omega) H.out.2.k.1 H.out.2.k.2).mono ?_
  rintro e w1 ⟨x0, rfl, hx, hb⟩
  replace A := A.kept hb
  replace B := B.trans (hb.mono B.size)
  clear hb
  rcases hx with rfl | ⟨y0, z0, s0⟩
  · go_wp2
    go_ret
    exact ⟨_, rfl, .inl rfl, B⟩
  have g0 : ¬ x0 < 0 := by omega
  have S0 : Hid (KqSm m.k.length m.k) := s0
  clear s0
  have c0 := A.cell 2
  have c1 := A.cell 3
  simp at c0 c1
  go_wp2_with fail
  refine (szFlashC m.f p.f x0 _ ((H.out.1.f).below B) y0 (by omega) H.out.2.f).mono ?_
  rintro e w2 ⟨x1, rfl, hx, hb⟩
  replace A := A.kept hb
  replace B := B.trans (hb.mono B.size)
  clear hb
  clear c0 c1
  rcases hx with rfl | ⟨y1, z1, s1⟩
  · go_wp2
    go_ret
    exact ⟨_, rfl, .inl rfl, B⟩
  have g1 : ¬ x1 < 0 := by omega
  have S1 : Hid (FlashSm m.f) := s1
  clear s1
  go_wp2
  go_ret
  exact ⟨_, rfl, .inr ⟨y1, by omega, ⟨S0.out, S1.out⟩⟩, B⟩
theorem eqDeviceC (m : DeviceM) (p q : DeviceA) (w : World) (h : DeviceRd w p m) (g : DeviceRd w q m) (s : DeviceSm m) :
    Calls Try.prog 51 #[devV m p, devV m q] w fun e w' => e = .returned (.bool true) ∧ Below w.heap.size w w' := by
  have ne_i : (m.i != m.i) = false := by simp
  obtain ⟨V, hV⟩ : ∃ V, V = (w.alloc (.cells #[.int .i64 m.i, .slice p.k.a m.k.length p.k.c, .slice p.f.b.a m.f.b.length p.f.b.c, .slice p.f.w.a m.f.w.length p.f.w.c] 70)).alloc (.cells #[.int .i64 m.i, .slice q.k.a m.k.length q.k.c, .slice q.f.b.a m.f.b.length q.f.b.c, .slice q.f.w.a m.f.w.length q.f.w.c] 70) := ⟨_, rfl⟩
  have B : Below w.heap.size w V := by rw [hV]; exact ((Below.refl _ _).alloc (Nat.le_refl _) _).alloc (by simp) _
  have A0 : Arr V w.heap.size 70 [.int .i64 m.i, .slice p.k.a m.k.length p.k.c, .slice p.f.b.a m.f.b.length p.f.b.c, .slice p.f.w.a m.f.w.length p.f.w.c] := by rw [hV]; exact (Arr.new _ _ _).alloc _
  have A1 : Arr V (w.heap.size + 1) 70 [.int .i64 m.i, .slice q.k.a m.k.length q.k.c, .slice q.f.b.a m.f.b.length q.f.b.c, .slice q.f.w.a m.f.w.length q.f.w.c] := by
    rw [hV]
    have := Arr.new (w.alloc (.cells #[.int .i64 m.i, .slice p.k.a m.k.length p.k.c, .slice p.f.b.a m.f.b.length p.f.b.c, .slice p.f.w.a m.f.w.length p.f.w.c] 70)) [.int .i64 m.i, .slice q.k.a m.k.length q.k.c, .slice q.f.b.a m.f.b.length q.f.b.c, .slice q.f.w.a m.f.w.length q.f.w.c] 70
    simpa using this
  have H : Hid (DeviceRd w p m ∧ DeviceRd w q m ∧ DeviceSm m) := ⟨h, g, s⟩
  clear h g s
  go_enter Try.func51, Try.ntmps51
  go_wp2_with fail
  rw [← hV]
  clear hV
  refine (eqKeySC p.k.a q.k.a m.k.length p.k.c q.k.c m.k _ ((H.out.1.k).below B) ((H.out.2.1.k).below B) H.out.2.2.k).mono ?_
  rintro e w1 ⟨rfl, hb⟩
  replace A0 := A0.kept hb
  replace A1 := A1.kept hb
  replace B := B.trans (hb.mono B.size)
  clear hb
  have c0 := A0.cell 2
  have d0 := A1.cell 2
  have c1 := A0.cell 3
  have d1 := A1.cell 3
  simp at c0 d0 c1 d1
  go_wp2_with fail
  refine (eqFlashC m.f p.f q.f _ ((H.out.1.f).below B) ((H.out.2.1.f).below B) H.out.2.2.f).mono ?_
  rintro e w2 ⟨rfl, hb⟩
  replace A0 := A0.kept hb
  replace A1 := A1.kept hb
  replace B := B.trans (hb.mono B.size)
  clear hb
  clear c0 d0 c1 d1
  go_wp2
  go_ret
  exact ⟨rfl, B⟩
theorem toDeviceC (m : DeviceM) (p : DeviceA) (w : World) (h : DeviceRd w p m) (s : DeviceSm m) :
    Calls Try.prog 49 #[devV m p] w fun e w' => ∃ p' : DeviceA, e = .returned (devV m p') ∧ DeviceOw w.heap.size w' p' m ∧ Below w.heap.size w w' := by
  obtain ⟨V, hV⟩ : ∃ V, V = ((w.alloc (.cells #[.int .i64 m.i, .slice p.k.a m.k.length p.k.c, .slice p.f.b.a m.f.b.length p.f.b.c, .slice p.f.w.a m.f.w.length p.f.w.c] 65)).alloc (.cells #[.int .i64 0, .slice none 0 0, .slice none 0 0, .slice none 0 0] 70)).alloc (.cells #[.int .i64 m.i, .slice none 0 0, .slice none 0 0, .slice none 0 0] 70) := ⟨_, rfl⟩
  have hL : Below w.heap.size w V := by rw [hV]; exact (((Below.refl _ _).alloc (Nat.le_refl _) _).alloc (by simp) _).alloc (by simp; omega) _
  have k0 : Arr V w.heap.size 65 [.int .i64 m.i, .slice p.k.a m.k.length p.k.c, .slice p.f.b.a m.f.b.length p.f.b.c, .slice p.f.w.a m.f.w.length p.f.w.c] := by rw [hV]; exact ((Arr.new w _ _).alloc _).alloc _
  have k1 : Arr V (w.heap.size + 1) 70 [.int .i64 0, .slice none 0 0, .slice none 0 0, .slice none 0 0] := by
    rw [hV]
    have := (Arr.new (w.alloc (.cells #[.int .i64 m.i, .slice p.k.a m.k.length p.k.c, .slice p.f.b.a m.f.b.length p.f.b.c, .slice p.f.w.a m.f.w.length p.f.w.c] 65)) [.int .i64 0, .slice none 0 0, .slice none 0 0, .slice none 0 0] 70).alloc (.cells #[.int .i64 m.i, .slice none 0 0, .slice none 0 0, .slice none 0 0] 70)
    simpa using this
  have k2 : Arr V (w.heap.size + 1 + 1) 70 [.int .i64 m.i, .slice none 0 0, .slice none 0 0, .slice none 0 0] := by
    rw [hV]
    have := Arr.new ((w.alloc (.cells #[.int .i64 m.i, .slice p.k.a m.k.length p.k.c, .slice p.f.b.a m.f.b.length p.f.b.c, .slice p.f.w.a m.f.w.length p.f.w.c] 65)).alloc (.cells #[.int .i64 0, .slice none 0 0, .slice none 0 0, .slice none 0 0] 70)) [.int .i64 m.i, .slice none 0 0, .slice none 0 0, .slice none 0 0] 70
    simpa using this
  have zV : w.heap.size + 3 ≤ V.heap.size := by rw [hV]; simp
  have H : Hid (DeviceRd w p m ∧ DeviceSm m) := ⟨h, s⟩
  clear h s
  go_enter Try.func49, Try.ntmps49
  have B := hL
  have zW : V.heap.size ≤ V.heap.size := Nat.le_refl _
  go_wp2_with fail
  rw [← hV]
  clear hV
  refine (toKeySC p.k.a m.k.length p.k.c m.k _ ((H.out.1.k).below B) H.out.2.k).mono ?_
  rintro e w1 ⟨ak, ck, rfl, ok, hbk⟩
  replace k0 := k0.kept hbk
  replace k1 := k1.kept hbk
  replace k2 := k2.kept hbk
  replace ok := (ok.base zW)
  replace zW := Nat.le_trans zW hbk.size
  replace B := B.trans (hbk.mono B.size)
  clear hbk
  have d1 := k2.cell 1
  simp at d1
  have f2 := k2.frozen
  have lt2 := k2.lt
  have c0 := k0.cell 2
  have c1 := k0.cell 3
  simp at c0 c1
  go_wp2_with fail
  have B2 : Below w.heap.size w (w1.setCell ⟨w.heap.size + 1 + 1, 1, none⟩ (.slice ak m.k.length ck)) := (B.setCell (by simp; omega) _)
  have zW2 : V.heap.size ≤ (w1.setCell ⟨w.heap.size + 1 + 1, 1, none⟩ (.slice ak m.k.length ck)).heap.size := by simpa using zW
  have ok2 := (ok.other ⟨w.heap.size + 1 + 1, 1, none⟩ (.slice ak m.k.length ck) (by simp; omega))
  have k02 := (k0.other ⟨w.heap.size + 1 + 1, 1, none⟩ (.slice ak m.k.length ck) (by simp; omega))
  have k12 := (k1.other ⟨w.heap.size + 1 + 1, 1, none⟩ (.slice ak m.k.length ck) (by simp))
  have k22 : Arr (w1.setCell ⟨w.heap.size + 1 + 1, 1, none⟩ (.slice ak m.k.length ck)) (w.heap.size + 1 + 1) 70 [.int .i64 m.i, .slice ak m.k.length ck, .slice none 0 0, .slice none 0 0] := (k2.set 1 (.slice ak m.k.length ck))
  generalize (w1.setCell ⟨w.heap.size + 1 + 1, 1, none⟩ (.slice ak m.k.length ck)) = W0 at B2 zW2 ok2 k02 k12 k22 ⊢
  clear B zW k0 k1 k2 f2 lt2 ok c0 c1 d1
  have B := B2
  have zW := zW2
  have k0 := k02
  have k1 := k12
  have k2 := k22
  have ok := ok2
  clear B2 zW2 k02 k12 k22 ok2
  refine (toFlashC m.f p.f _ ((H.out.1.f).below B) H.out.2.f).mono ?_
  rintro e w2 ⟨af, rfl, of, hbf⟩
  replace k0 := k0.kept hbf
  replace k1 := k1.kept hbf
  replace k2 := k2.kept hbf
  replace ok := (ok.below hbf)
  replace of := (of.base zW)
  replace zW := Nat.le_trans zW hbf.size
  replace B := B.trans (hbf.mono B.size)
  clear hbf
  have d2 := k2.cell 2
  have d3 := k2.cell 3
  simp at d2 d3
  have f2 := k2.frozen
  have lt2 := k2.lt
  have d0 := k2.cell 0
  have e0 := k1.cell 0
  have d1 := k2.cell 1
  have e1 := k1.cell 1
  have e2 := k1.cell 2
  have e3 := k1.cell 3
  simp at d0 d1 e0 e1 e2 e3
  have f1 := k1.frozen
  have lt1 := k1.lt
  have HO : Hid (∀ (q0 : Addr) (u0 : Value) (q1 : Addr) (u1 : Value) (q2 : Addr) (u2 : Value) (q3 : Addr) (u3 : Value) (q4 : Addr) (u4 : Value) (q5 : Addr) (u5 : Value), q0.block < V.heap.size → q1.block < V.heap.size → q2.block < V.heap.size → q3.block < V.heap.size → q4.block < V.heap.size → q5.block < V.heap.size → DeviceOw w.heap.size ((((((w2.setCell q0 u0).setCell q1 u1).setCell q2 u2).setCell q3 u3).setCell q4 u4).setCell q5 u5) ⟨⟨ak, ck⟩, af⟩ m) := by
    intro q0 u0 q1 u1 q2 u2 q3 u3 q4 u4 q5 u5 hq0 hq1 hq2 hq3 hq4 hq5
    exact ⟨(((((((ok.other q0 u0 hq0).other q1 u1 hq1).other q2 u2 hq2).other q3 u3 hq3).other q4 u4 hq4).other q5 u5 hq5).base hL.size), (((((((of.other q0 u0 hq0).other q1 u1 hq1).other q2 u2 hq2).other q3 u3 hq3).other q4 u4 hq4).other q5 u5 hq5).base hL.size)⟩
  have HF : Hid (∀ v0 v1 r0 r1 r2 r3, Below w.heap.size w ((((((w2.setCell ⟨w.heap.size + 1 + 1, 2, none⟩ v0).setCell ⟨w.heap.size + 1 + 1, 3, none⟩ v1).setCell ⟨w.heap.size + 1, 0, none⟩ r0).setCell ⟨w.heap.size + 1, 1, none⟩ r1).setCell ⟨w.heap.size + 1, 2, none⟩ r2).setCell ⟨w.heap.size + 1, 3, none⟩ r3)) := fun v0 v1 r0 r1 r2 r3 => ((((((B.setCell (by simp; omega) _).setCell (by simp; omega) _).setCell (by simp) _).setCell (by simp) _).setCell (by simp) _).setCell (by simp) _)
  have K1 : Hid (Arr w2 (w.heap.size + 1) 70 [.int .i64 0, .slice none 0 0, .slice none 0 0, .slice none 0 0]) := k1
  clear B zW k0 k1 k2 ok of hL
  go_wp2
  have K2 : Arr w2 (w.heap.size + 1) 70 [.int .i64 0, .slice none 0 0, .slice none 0 0, .slice none 0 0] := K1.out
  have n3 := ((((((K2.other ⟨w.heap.size + 1 + 1, 2, none⟩ (.slice af.b.a m.f.b.length af.b.c) (by simp)).other ⟨w.heap.size + 1 + 1, 3, none⟩ (.slice af.w.a m.f.w.length af.w.c) (by simp)).set 0 (.int .i64 m.i)).set 1 (.slice ak m.k.length ck)).set 2 (.slice af.b.a m.f.b.length af.b.c)).set 3 (.slice af.w.a m.f.w.length af.w.c))
  exact bodyPost_ret (results_cell_row rfl _ _ (w.heap.size + 1) 70 _ (0, 0) _ rfl n3 Try.underlying70 rfl (by kernel_rfl)) rfl ⟨⟨⟨ak, ck⟩, af⟩, rfl, HO.out _ _ _ _ _ _ _ _ _ _ _ _ (by simp; omega) (by simp; omega) (by simp; omega) (by simp; omega) (by simp; omega) (by simp; omega), HF.out _ _ _ _ _ _⟩
end Go.Proofs.Ytgfjbaigmkdbcaa
namespace Go.Proofs.Ytgfjbaigmkdbcaa
set_option maxRecDepth 100000
open Go.RowKit

def wrOk (ws : List Int) : Bool := decide (∀ x ∈ ws, 0 ≤ x ∧ x ≤ 200)
/-- The document's FlashOk. -/
def flOk (bs ws : List Int) : Bool := decide (bs.length = 3072) && (decide (ws.length = 48) && wrOk ws)
def inF (i n : Int) : Bool := decide (0 ≤ i) && (decide (0 ≤ n) && decide (n ≤ 3072 - i))
def mk (ms : List Int) (i : Nat) : Int := if ms.length = 0 then 0 else ms.getD (i % ms.length) 0

theorem wr_get {ws : List Int} (h : wrOk ws = true) {k : Nat} (hk : k < ws.length) : 0 ≤ ws.getD k 0 ∧ ws.getD k 0 ≤ 200 := by
  have e : ws.getD k 0 = ws[k] := by simp [hk]
  rw [e]
  exact (of_decide_eq_true h) _ (List.getElem_mem hk)
set_option maxHeartbeats 1000000 in
theorem specFlashOk (aB : Option Addr) (nB cB : Nat) (aW : Option Addr) (nW cW : Nat) (bs ws : List Int) (w : World) (hB : Bs w aB nB cB bs) (hW : Is w aW nW cW ws) (hn : nB ≤ 2097152) (hm : nW ≤ 2097152) :
    Calls Try.prog 113 #[flV aB nB cB aW nW cW] w fun e w' => e = .returned (.bool (flOk bs ws)) ∧ Below w.heap.size w w' := by
  have hbl := hB.2.1
  have hwl := hW.2.1
  have HB : Hid (Below w.heap.size w (w.alloc (.cells #[.slice aB nB cB, .slice aW nW cW] 68))) := (Below.refl _ _).alloc (Nat.le_refl _) _
  have HA : Hid (Arr (w.alloc (.cells #[.slice aB nB cB, .slice aW nW cW] 68)) w.heap.size 68 [.slice aB nB cB, .slice aW nW cW]) := Arr.new _ _ _
  have hW' := hW.below HB.out
  clear hB hW
  by_cases h1 : nB = 3072
  · by_cases h2 : nW = 48
    · have h1' : ((nB : Int) != 3072) = false := by subst h1; rfl
      have h2' : ((nW : Int) != 48) = false := by subst h2; rfl
      have HE : Hid (flOk bs ws = wrOk ws) := by unfold Hid flOk; simp [hbl, hwl, h1, h2]
      obtain ⟨_, _, _, _, h⟩ := hW'
      rcases h with h | ⟨b, o, rfl, hb, hc⟩
      · omega
      clear h1 h2
      obtain ⟨V, hV⟩ : ∃ V, V = w.alloc (.cells #[.slice aB nB cB, .slice (some ⟨b, o, none⟩) nW cW] 68) := ⟨_, rfl⟩
      rw [← hV] at hb hc HA HB
      have c1 := Arr.cell HA.out 1
      simp at c1
      have HC : Hid _ := hc
      clear hc hb
      go_enter Try.func113, Try.ntmps113
      go_wp2
      rw [← hV]
      clear hV
      go_loop [3] (fun i => ∃ k : Nat, k ≤ nW ∧ i = .int .i64 k ∧ ∀ x ∈ ws.take k, 0 ≤ x ∧ x ≤ 200) (fun i => nW - (intOf i).toNat)
      case atStart => exact ⟨0, Nat.zero_le _, rfl, by simp⟩
      case round =>
        obtain ⟨k, hk, rfl, hall⟩ := hrel
        have HL : Hid _ := hall
        clear hall
        by_cases hlt : k < nW
        · obtain ⟨x, hx⟩ : ∃ x, x = ws.getD k 0 := ⟨_, rfl⟩
          have hck : V.cell? ⟨b, o + k, none⟩ = some (.int .i64 x) := by rw [hx]; exact HC.out k hlt
          have HX : Hid _ := hx
          clear hx
          by_cases g1 : x < 0
          · go_wp2
            go_ret
            refine ⟨?_, HB.out⟩
            rw [HE.out]
            have : wrOk ws = false := by
              unfold wrOk; rw [decide_eq_false_iff_not]
              exact not_all (k := k) (by omega) (by rw [← HX.out]; omega)
            rw [this]; rfl
          by_cases g2 : 200 < x
          · go_wp2
            go_ret
            refine ⟨?_, HB.out⟩
            rw [HE.out]
            have : wrOk ws = false := by
              unfold wrOk; rw [decide_eq_false_iff_not]
              exact not_all (k := k) (by omega) (by rw [← HX.out]; omega)
            rw [this]; rfl
          go_wp2
          go_round
          case rel => exact ⟨k + 1, by omega, by go_num, all_take HL.out (by omega) (by rw [← HX.out]; omega)⟩
          case measure => simp [intOf]; omega
        · have hkn : k = nW := by omega
          subst hkn
          go_wp2
          go_ret
          refine ⟨?_, HB.out⟩
          rw [HE.out]
          have : wrOk ws = true := by
            unfold wrOk; rw [decide_eq_true_eq]
            have := HL.out
            rwa [List.take_of_length_le (by omega)] at this
          rw [this]; rfl
    · have h1' : ((nB : Int) != 3072) = false := by subst h1; rfl
      have h2' : ((nW : Int) != 48) = true := by simp; omega
      have HE : Hid (flOk bs ws = false) := by unfold Hid flOk; simp [hbl, hwl, h1, h2]
      clear h1 h2
      go_enter Try.func113, Try.ntmps113
      go_wp2
      go_ret
      exact ⟨by rw [HE.out]; rfl, HB.out⟩
  · have h1' : ((nB : Int) != 3072) = true := by simp; omega
    have HE : Hid (flOk bs ws = false) := by unfold Hid flOk; simp [hbl, h1]
    go_enter Try.func113, Try.ntmps113
    go_wp2
    go_ret
    exact ⟨by rw [HE.out]; rfl, HB.out⟩

end Go.Proofs.Ytgfjbaigmkdbcaa
namespace Go.Proofs.Ytgfjbaigmkdbcaa
set_option maxRecDepth 100000
open Go.RowKit
set_option maxHeartbeats 1000000

theorem implNoWear (n : Int) (w : World) : Calls Try.prog 147 #[.int .i64 n] w fun e w' => e = .returned (.bool (!decide (0 ≤ n ∧ n ≤ 200))) ∧ w' = w := by
  obtain ⟨R, hR⟩ : ∃ R, decide (0 ≤ n ∧ n ≤ 200) = R := ⟨_, rfl⟩
  rw [hR]
  have HR : Hid _ := hR
  clear hR
  go_enter Try.func147, Try.ntmps147
  go_wp2_with fail
  refine (implIsIn n 0 200 _).mono ?_
  rintro e w1 ⟨rfl, hw⟩
  rw [hw, HR.out]
  go_wp2
  go_ret
  exact ⟨rfl, rfl⟩
theorem implWritten (n : Int) (w : World) : Calls Try.prog 143 #[.int .u8 n] w fun e w' => e = .returned (.bool (n != 255)) ∧ w' = w := by
  go_enter Try.func143, Try.ntmps143
  go_wp2
  go_ret
  exact ⟨rfl, rfl⟩
theorem indexWear (a : Option Addr) (n c : Nat) (xs : List Int) (w : World) (h : Is w a n c xs) (hn : n ≤ 2097152) :
    Calls Try.prog 158 #[.slice a n c, .func (.func 147) #[] #[]] w fun e w' => ∃ r : Int, e = .returned (.int .i64 r) ∧ decide (0 ≤ r) = !wrOk xs ∧ w' = w := by
  obtain ⟨_, hl, hc, _, h⟩ := h
  go_enter Try.func158, Try.ntmps158
  go_wp2
  go_loop [8] (fun i => ∃ k : Nat, k ≤ n ∧ i = .int .i64 k ∧ ∀ x ∈ xs.take k, 0 ≤ x ∧ x ≤ 200) (fun i => n - (intOf i).toNat)
  case atStart => exact ⟨0, Nat.zero_le _, rfl, by simp⟩
  case round =>
    obtain ⟨k, hk, rfl, hall⟩ := hrel
    have HL : Hid _ := hall
    clear hall
    by_cases hlt : k < n
    · rcases h with h | ⟨b, o, rfl, hbs, hcell⟩
      · omega
      obtain ⟨x, hx⟩ : ∃ x, x = xs.getD k 0 := ⟨_, rfl⟩
      have hck : w.cell? ⟨b, o + k, none⟩ = some (.int .i64 x) := by rw [hx]; exact hcell k hlt
      have HX : Hid _ := hx
      clear hx hcell
      go_wp2_with fail
      refine (implNoWear x _).mono ?_
      rintro e w1 ⟨rfl, hw⟩
      rw [hw]
      clear hw
      by_cases g1 : 0 ≤ x ∧ x ≤ 200
      · rw [decide_eq_true g1]
        have G1 : Hid _ := g1
        clear g1
        go_wp2
        go_round
        case rel => exact ⟨k + 1, by omega, by go_num, all_take HL.out (by omega) (by rw [← HX.out]; exact G1.out)⟩
        case measure => simp [intOf]; omega
      · rw [decide_eq_false g1]
        have : wrOk xs = false := by
          unfold wrOk; rw [decide_eq_false_iff_not]
          exact not_all (k := k) (by omega) (by rw [← HX.out]; exact g1)
        go_wp2
        go_ret
        exact ⟨k, rfl, by rw [this]; simp, rfl⟩
    · have hkn : k = n := by omega
      subst hkn
      have : wrOk xs = true := by
        unfold wrOk; rw [decide_eq_true_eq]
        have := HL.out
        rwa [List.take_of_length_le (by omega)] at this
      go_wp2
      go_ret
      exact ⟨-1, rfl, by omega, rfl⟩
theorem indexWritten (a : Option Addr) (n c : Nat) (xs : List Int) (w : World) (h : Bs w a n c xs) (hn : n ≤ 2097152) :
    Calls Try.prog 158 #[.slice a n c, .func (.func 143) #[] #[]] w fun e w' => ∃ r : Int, e = .returned (.int .i64 r) ∧ decide (0 ≤ r) = !blk xs ∧ w' = w := by
  obtain ⟨_, hl, hc, _, h⟩ := h
  go_enter Try.func158, Try.ntmps158
  go_wp2
  go_loop [8] (fun i => ∃ k : Nat, k ≤ n ∧ i = .int .i64 k ∧ ∀ x ∈ xs.take k, x = 255) (fun i => n - (intOf i).toNat)
  case atStart => exact ⟨0, Nat.zero_le _, rfl, by simp⟩
  case round =>
    obtain ⟨k, hk, rfl, hall⟩ := hrel
    have HL : Hid _ := hall
    clear hall
    by_cases hlt : k < n
    · rcases h with h | ⟨b, o, rfl, hbs, hcell⟩
      · omega
      obtain ⟨x, hx⟩ : ∃ x, x = xs.getD k 0 := ⟨_, rfl⟩
      have hck : w.cell? ⟨b, o + k, none⟩ = some (.int .u8 x) := by rw [hx]; exact hcell k hlt
      have HX : Hid _ := hx
      clear hx hcell
      go_wp2_with fail
      refine (implWritten x _).mono ?_
      rintro e w1 ⟨rfl, hw⟩
      rw [hw]
      clear hw
      by_cases g1 : x = 255
      · rw [show (x != 255) = false by simpa using g1]
        have G1 : Hid _ := g1
        clear g1
        go_wp2
        go_round
        case rel => exact ⟨k + 1, by omega, by go_num, all_take HL.out (by omega) (by rw [← HX.out]; exact G1.out)⟩
        case measure => simp [intOf]; omega
      · rw [show (x != 255) = true by simpa using g1]
        have : blk xs = false := by
          unfold blk; rw [decide_eq_false_iff_not]
          exact not_all (k := k) (by omega) (by rw [← HX.out]; exact g1)
        go_wp2
        go_ret
        exact ⟨k, rfl, by rw [this]; simp, rfl⟩
    · have hkn : k = n := by omega
      subst hkn
      have : blk xs = true := by
        unfold blk; rw [decide_eq_true_eq]
        have := HL.out
        rwa [List.take_of_length_le (by omega)] at this
      go_wp2
      go_ret
      exact ⟨-1, rfl, by omega, rfl⟩
theorem hasWear (a : Option Addr) (n c : Nat) (xs : List Int) (w : World) (h : Is w a n c xs) (hn : n ≤ 2097152) :
    Calls Try.prog 146 #[.slice a n c, .func (.func 147) #[] #[]] w fun e w' => e = .returned (.bool (!wrOk xs)) ∧ w' = w := by
  go_enter Try.func146, Try.ntmps146
  go_wp2_with fail
  refine (indexWear a n c xs _ h hn).mono ?_
  rintro e w1 ⟨r, rfl, hr, hw⟩
  rw [hw]
  have HR : Hid _ := hr
  clear hw hr
  go_wp2
  go_ret
  exact ⟨by rw [← HR.out]; rfl, rfl⟩
theorem hasWritten (a : Option Addr) (n c : Nat) (xs : List Int) (w : World) (h : Bs w a n c xs) (hn : n ≤ 2097152) :
    Calls Try.prog 146 #[.slice a n c, .func (.func 143) #[] #[]] w fun e w' => e = .returned (.bool (!blk xs)) ∧ w' = w := by
  go_enter Try.func146, Try.ntmps146
  go_wp2_with fail
  refine (indexWritten a n c xs _ h hn).mono ?_
  rintro e w1 ⟨r, rfl, hr, hw⟩
  rw [hw]
  have HR : Hid _ := hr
  clear hw hr
  go_wp2
  go_ret
  exact ⟨by rw [← HR.out]; rfl, rfl⟩
theorem implFlashOk (aB : Option Addr) (nB cB : Nat) (aW : Option Addr) (nW cW : Nat) (bs ws : List Int) (w : World) (hB : Bs w aB nB cB bs) (hW : Is w aW nW cW ws) (hn : nB ≤ 2097152) (hm : nW ≤ 2097152) :
    Calls Try.prog 115 #[flV aB nB cB aW nW cW] w fun e w' => e = .returned (.bool (flOk bs ws)) ∧ Below w.heap.size w w' := by
  have hbl := hB.2.1
  have hwl := hW.2.1
  have HB : Hid (Below w.heap.size w (w.alloc (.cells #[.slice aB nB cB, .slice aW nW cW] 68))) := (Below.refl _ _).alloc (Nat.le_refl _) _
  have hW' := hW.below HB.out
  clear hB hW
  by_cases h1 : nB = 3072
  · have h1' : ((nB : Int) == 3072) = true := by subst h1; rfl
    by_cases h2 : nW = 48
    · have h2' : ((nW : Int) == 48) = true := by subst h2; rfl
      have HE : Hid (flOk bs ws = wrOk ws) := by unfold Hid flOk; simp [hbl, hwl, h1, h2]
      clear h1 h2
      go_enter Try.func115, Try.ntmps115
      go_wp2_with fail
      refine (hasWear aW nW cW ws _ hW' hm).mono ?_
      rintro e w1 ⟨rfl, hw⟩
      rw [hw]
      clear hw
      go_wp2
      go_ret
      exact ⟨by rw [HE.out]; simp, HB.out⟩
    · have h2' : ((nW : Int) == 48) = false := by simp; omega
      have HE : Hid (flOk bs ws = false) := by unfold Hid flOk; simp [hbl, hwl, h1, h2]
      clear h1 h2
      go_enter Try.func115, Try.ntmps115
      go_wp2
      go_ret
      exact ⟨by rw [HE.out]; rfl, HB.out⟩
  · have h1' : ((nB : Int) == 3072) = false := by simp; omega
    have HE : Hid (flOk bs ws = false) := by unfold Hid flOk; simp [hbl, h1]
    go_enter Try.func115, Try.ntmps115
    go_wp2
    go_ret
    exact ⟨by rw [HE.out]; rfl, HB.out⟩
end Go.Proofs.Ytgfjbaigmkdbcaa
namespace Go.Proofs.Ytgfjbaigmkdbcaa
open Go.RowKit

abbrev lstOkP (n : Nat) (most : Int) (P : Nat → Bool) (C : Nat → Int) : Prop := (n : Int) ≤ most ∧ ∀ i, i < n → P i = true ∧ (0 < i → C (i - 1) < 0)
def lstOk (n : Nat) (most : Int) (P : Nat → Bool) (C : Nat → Int) : Bool := decide (lstOkP n most P C)
theorem lstOk_dec (n : Nat) (most : Int) (P : Nat → Bool) (C : Nat → Int) : ∃ R, lstOk n most P C = R ∧ Hid (lstOkP n most P C → R = true) ∧ Hid (¬ lstOkP n most P C → R = false) := ⟨_, rfl, decide_eq_true, decide_eq_false⟩
end Go.Proofs.Ytgfjbaigmkdbcaa

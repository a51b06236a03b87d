/-
  What is proved here: what Blank, ReadAt and WearMost answer, the specification's and the program's.
-/
import Derived.Test.YtcnlpdpbkkjkoaaF9c
import Derived.Test.YtcnlpdpbkkjkoaaF9d
import Derived.Test.YtcnlpdpbkkjkoaaCtc
namespace Go.Proofs.Ytcnlpdpbkkjkoaa
set_option maxRecDepth 100000
open Go.RowKit
set_option linter.unusedVariables false
def rdOk9 (bs ws : List Int) (i n : Int) : Bool := flOk bs ws && inF i n
def rdC (bs ws : List Int) (i n : Int) : Int := if flOk bs ws then (if inF i n then 0 else 1) else 4
def rdB (bs ws : List Int) (i n : Int) : List Int := if flOk bs ws && inF i n then sub bs i n else []
theorem rdB_len (bs ws : List Int) (i n : Int) : (rdB bs ws i n).length ≤ 3072 := by
  unfold rdB
  split
  · rename_i h
    simp only [Bool.and_eq_true] at h
    obtain ⟨l1, _, _⟩ := flOk_iff.1 h.1
    simp [sub]; omega
  · simp
theorem rdB_byte {bs : List Int} (h : ∀ x ∈ bs, 0 ≤ x ∧ x < 256) (ws : List Int) (i n : Int) : ∀ x ∈ rdB bs ws i n, 0 ≤ x ∧ x < 256 := by
  unfold rdB
  split
  · intro x hx; exact h x (List.mem_of_mem_drop (List.mem_of_mem_take hx))
  · simp
theorem maxI (u v : Int) : max u v = if v > u then v else u := by split <;> omega
def wmost (bs ws : List Int) : Int := if flOk bs ws then ws.foldl max 0 else 0

set_option maxHeartbeats 1000000 in
theorem blank_s (aB : Option Addr) (nB cB : Nat) (aW : Option Addr) (nW cW : Nat) (bs ws : List Int) (i n : Int) (w : World) (hB : Bs w aB nB cB bs) (hW : Is w aW nW cW ws) (hn : nB ≤ 2097152) (hm : nW ≤ 2097152)
    (h0 : -9223372036854775808 ≤ i) (h1 : i ≤ 9223372036854775807) (h2 : -9223372036854775808 ≤ n) (h3 : n ≤ 9223372036854775807) :
    Calls Try.prog 39 #[flV aB nB cB aW nW cW, .int .i64 i, .int .i64 n] w fun e w' => e = .returned (.bool (blankF bs ws i n)) ∧ Below w.heap.size w w' := by
  have HB : Hid (Below w.heap.size w (w.alloc (.cells #[.slice aB nB cB, .slice aW nW cW] 25))) := (Below.refl _ _).alloc (Nat.le_refl _) _
  have HA : Hid (Arr (w.alloc (.cells #[.slice aB nB cB, .slice aW nW cW] 25)) w.heap.size 25 [.slice aB nB cB, .slice aW nW cW]) := Arr.new _ _ _
  obtain ⟨r, hr⟩ : ∃ r, r = blankF bs ws i n := ⟨_, rfl⟩
  rw [← hr]
  have HR : Hid _ := hr
  clear hr
  go_enter Try.func39, Try.ntmps39
  go_wp2_with fail
  refine (specFlashOk aB nB cB aW nW cW bs ws _ (hB.below HB.out) (hW.below HB.out) hn hm).mono ?_
  rintro e w1 ⟨rfl, b1⟩
  have B1 := HB.out.trans (b1.mono HB.out.size)
  have A1 := Arr.kept HA.out b1
  have hB1 := hB.below B1
  have hW1 := hW.below B1
  clear HB HA b1 hB hW
  have hf : flOk bs ws = false ∨ flOk bs ws = true := by cases flOk bs ws <;> simp
  obtain ⟨f, hf'⟩ : ∃ f, f = flOk bs ws := ⟨_, rfl⟩
  rw [← hf'] at hf ⊢
  have HF : Hid _ := hf'
  clear hf'
  rcases hf with rfl | rfl
  · have : r = false := by rw [HR.out]; unfold blankF; rw [← HF.out]; rfl
    subst this
    go_wp2
    go_ret
    exact ⟨rfl, B1⟩
  · go_wp2_with fail
    refine (specIn i n _ h0 h1 h2 h3).mono ?_
    rintro e w2 ⟨rfl, e2⟩
    rw [e2]
    clear e2
    have hi : inF i n = false ∨ inF i n = true := by cases inF i n <;> simp
    obtain ⟨f, hf'⟩ : ∃ f, f = inF i n := ⟨_, rfl⟩
    rw [← hf'] at hi ⊢
    have HI : Hid _ := hf'
    clear hf'
    rcases hi with rfl | rfl
    · have : r = false := by rw [HR.out]; unfold blankF; rw [← HI.out]; simp
      subst this
      go_wp2
      go_ret
      exact ⟨rfl, B1⟩
    · obtain ⟨g0, g1, g2⟩ := inF_iff.1 HI.out.symm
      obtain ⟨l1, l2, l3⟩ := flOk_iff.1 HF.out.symm
      have hbl := hB1.2.1
      have hcap := hB1.2.2.1
      obtain ⟨I, rfl⟩ : ∃ I : Nat, i = (I : Int) := ⟨i.toNat, by omega⟩
      obtain ⟨K, rfl⟩ : ∃ K : Nat, n = (K : Int) := ⟨n.toNat, by omega⟩
      have hIK : I + K ≤ nB := by omega
      have hs : (sub bs (I : Int) (K : Int)) = (bs.drop I).take K := by simp [sub]
      have hr : r = blk ((bs.drop I).take K) := by rw [HR.out]; unfold blankF; rw [← HI.out, ← HF.out, hs]; simp
      clear HR
      have HR : Hid _ := hr
      clear hr
      clear HI HF hs
      obtain ⟨q0, q1, q2, q3, q4⟩ := hB1
      rcases q4 with h | ⟨b, o, rfl, hb, hc⟩
      · omega
      have hM := Bs.mid (w := w1) (b := b) (o := o) (n := nB) (c := cB) (xs := bs) ⟨q0, q1, q2, q3, .inr ⟨b, o, rfl, hb, hc⟩⟩ I K hIK
      clear q0 q1 q2 q3 hc
      have c0 := A1.cell 0
      simp at c0
      by_cases hI : I = cB
      · have hK : K = 0 := by omega
        subst hK
        subst hI
        have hz : Bs w1 (some ⟨b, o, none⟩) 0 0 ((bs.drop I).take 0) := ⟨(fun h => by cases h), by simp, by omega, by simp, .inl rfl⟩
        go_wp2_with fail
        refine (specBlankB _ _ _ _ _ hz (by omega)).mono ?_
        rintro e w2 ⟨rfl, e2⟩
        rw [e2]
        clear e2
        obtain ⟨y, hy⟩ : ∃ y, y = blk ((bs.drop I).take 0) := ⟨_, rfl⟩
        rw [← hy]
        have HY : Hid _ := hy
        clear hy
        go_wp2
        go_ret
        exact ⟨by rw [HR.out, ← HY.out]; simp, B1⟩
      go_wp2_with fail
      refine (specBlankB _ _ _ _ _ hM (by omega)).mono ?_
      rintro e w2 ⟨rfl, e2⟩
      rw [e2]
      clear e2
      obtain ⟨y, hy⟩ : ∃ y, y = blk ((bs.drop I).take K) := ⟨_, rfl⟩
      rw [← hy]
      have HY : Hid _ := hy
      clear hy
      go_wp2
      go_ret
      exact ⟨by rw [HR.out, ← HY.out]; simp, B1⟩

set_option maxHeartbeats 1000000 in
theorem readAt_s (aB : Option Addr) (nB cB : Nat) (aW : Option Addr) (nW cW : Nat) (bs ws : List Int) (i n : Int) (w : World) (hB : Bs w aB nB cB bs) (hW : Is w aW nW cW ws) (hn : nB ≤ 2097152) (hm : nW ≤ 2097152)
    (h0 : -9223372036854775808 ≤ i) (h1 : i ≤ 9223372036854775807) (h2 : -9223372036854775808 ≤ n) (h3 : n ≤ 9223372036854775807) :
    Calls Try.prog 40 #[flV aB nB cB aW nW cW, .int .i64 i, .int .i64 n] w fun e w' => ∃ v, e = .returned (.tuple #[v, .int .i64 (rdC bs ws i n)]) ∧ w'.ownsRow w.heap.size 5 1 v (rdB bs ws i n).length (U8 (rdB bs ws i n)) ∧ Below w.heap.size w w' := by
  have HB : Hid (Below w.heap.size w (w.alloc (.cells #[.slice aB nB cB, .slice aW nW cW] 25))) := (Below.refl _ _).alloc (Nat.le_refl _) _
  have HA : Hid (Arr (w.alloc (.cells #[.slice aB nB cB, .slice aW nW cW] 25)) w.heap.size 25 [.slice aB nB cB, .slice aW nW cW]) := Arr.new _ _ _
  obtain ⟨r, hr⟩ : ∃ r, r = rdC bs ws i n := ⟨_, rfl⟩
  obtain ⟨L, hL⟩ : ∃ L, L = rdB bs ws i n := ⟨_, rfl⟩
  rw [← hr, ← hL]
  have HR : Hid _ := hr
  have HL : Hid _ := hL
  clear hr hL
  go_enter Try.func40, Try.ntmps40
  go_wp2_with fail
  refine (specFlashOk aB nB cB aW nW cW bs ws _ (hB.below HB.out) (hW.below HB.out) hn hm).mono ?_
  rintro e w1 ⟨rfl, b1⟩
  have B1 := HB.out.trans (b1.mono HB.out.size)
  have A1 := Arr.kept HA.out b1
  have hB1 := hB.below B1
  have hW1 := hW.below B1
  clear HB HA b1 hB hW
  have hf : flOk bs ws = false ∨ flOk bs ws = true := by cases flOk bs ws <;> simp
  obtain ⟨f, hf'⟩ : ∃ f, f = flOk bs ws := ⟨_, rfl⟩
  rw [← hf'] at hf ⊢
  have HF : Hid _ := hf'
  clear hf'
  rcases hf with rfl | rfl
  · have : r = 4 := by rw [HR.out]; unfold rdC; rw [← HF.out]; rfl
    subst this
    have : L = [] := by rw [HL.out]; unfold rdB; rw [← HF.out]; rfl
    subst this
    go_wp2
    go_ret2
    exact ⟨_, rfl, World.ownsRow_nil _ _ _ _, B1⟩
  · go_wp2_with fail
    refine (specIn i n _ h0 h1 h2 h3).mono ?_
    rintro e w2 ⟨rfl, e2⟩
    rw [e2]
    clear e2
    have hi : inF i n = false ∨ inF i n = true := by cases inF i n <;> simp
    obtain ⟨f, hf'⟩ : ∃ f, f = inF i n := ⟨_, rfl⟩
    rw [← hf'] at hi ⊢
    have HI : Hid _ := hf'
    clear hf'
    rcases hi with rfl | rfl
    · have : r = 1 := by rw [HR.out]; unfold rdC; rw [← HI.out, ← HF.out]; rfl
      subst this
      have : L = [] := by rw [HL.out]; unfold rdB; rw [← HI.out]; simp
      subst this
      go_wp2
      go_ret2
      exact ⟨_, rfl, World.ownsRow_nil _ _ _ _, B1⟩
    · obtain ⟨g0, g1, g2⟩ := inF_iff.1 HI.out.symm
      obtain ⟨l1, l2, l3⟩ := flOk_iff.1 HF.out.symm
      have hbl := hB1.2.1
      have hcap := hB1.2.2.1
      obtain ⟨I, rfl⟩ : ∃ I : Nat, i = (I : Int) := ⟨i.toNat, by omega⟩
      obtain ⟨K, rfl⟩ : ∃ K : Nat, n = (K : Int) := ⟨n.toNat, by omega⟩
      have hIK : I + K ≤ nB := by omega
      have hs : (sub bs (I : Int) (K : Int)) = (bs.drop I).take K := by simp [sub]
      have hr : r = 0 := by rw [HR.out]; unfold rdC; rw [← HI.out, ← HF.out]; rfl
      have hL : L = (bs.drop I).take K := by rw [HL.out]; unfold rdB; rw [← HI.out, ← HF.out, hs]; rfl
      have hLl : L.length = K := by rw [hL]; simp; omega
      subst hr
      clear HR HL
      clear HI HF hs
      obtain ⟨q0, q1, q2, q3, q4⟩ := hB1
      rcases q4 with h | ⟨b, o, rfl, hb, hc⟩
      · omega
      have hM := Bs.mid (w := w1) (b := b) (o := o) (n := nB) (c := cB) (xs := bs) ⟨q0, q1, q2, q3, .inr ⟨b, o, rfl, hb, hc⟩⟩ I K hIK
      clear q0 q1 q2 q3 hc
      have c0 := A1.cell 0
      simp at c0
      have lt1 := A1.lt
      rw [← hL] at hM
      have HLL : Hid _ := hLl
      have HLE : Hid _ := hL
      clear hLl hL
      by_cases hI : I = cB
      · have hK : K = 0 := by omega
        subst hK
        subst hI
        have hz : Bs w1 (some ⟨b, o, none⟩) 0 0 L := ⟨(fun h => by cases h), by rw [HLE.out]; simp, by omega, by rw [HLE.out]; simp, .inl rfl⟩
        have hz2 := hz.below ((Below.refl _ _).alloc (Nat.le_refl _) (Obj.cells #[] 5))
        have ho : (w1.alloc (Obj.cells #[] 5)).ownsRow w1.heap.size 5 1 (.slice (some ⟨w1.heap.size, 0, none⟩) 0 0) 0 (U8 []) := World.ownsRow_made w1 #[] 0 (Nat.le_refl _) (by unfold maxLen; omega) rfl
        go_wp2_with (at_builtin; refine wpl_append_bs rfl _ _ rfl w1.heap.size _ 0 [] rfl (some ⟨b, o, none⟩) 0 0 L (by first | rfl | (simp [Act.eval]; omega) | (simp [Act.eval])) ho hz2 ?_ ?_ ?_)
        · omega
        · simp
        intro v1 w2 o2 g2 _
        have b2 : Below w1.heap.size w1 w2 := ((Below.refl _ _).alloc (Nat.le_refl _) _).grown g2 (by simp) (by intro k hk; simp [Value.ownBlock] at hk; omega)
        clear g2 ho hz2
        go_wp2
        go_ret2
        exact ⟨_, rfl, own_base (by rw [HLL.out]; simpa using o2) B1.size, B1.trans (b2.mono B1.size)⟩
      have hz2 := hM.below ((Below.refl _ _).alloc (Nat.le_refl _) (Obj.cells #[] 5))
      have ho : (w1.alloc (Obj.cells #[] 5)).ownsRow w1.heap.size 5 1 (.slice (some ⟨w1.heap.size, 0, none⟩) 0 0) 0 (U8 []) := World.ownsRow_made w1 #[] 0 (Nat.le_refl _) (by unfold maxLen; omega) rfl
      go_wp2_with (at_builtin; refine wpl_append_bs rfl _ _ rfl w1.heap.size _ 0 [] rfl (some ⟨b, o + I, none⟩) K (cB - I) L (by first | rfl | (simp [Act.eval]; omega) | (simp [Act.eval])) ho hz2 ?_ ?_ ?_)
      · omega
      · simp
      intro v1 w2 o2 g2 _
      have b2 : Below w1.heap.size w1 w2 := ((Below.refl _ _).alloc (Nat.le_refl _) _).grown g2 (by simp) (by intro k hk; simp [Value.ownBlock] at hk; omega)
      clear g2 ho hz2
      go_wp2
      go_ret2
      exact ⟨_, rfl, own_base (by rw [HLL.out]; simpa using o2) B1.size, B1.trans (b2.mono B1.size)⟩

set_option maxHeartbeats 1000000 in
theorem blank_i (aB : Option Addr) (nB cB : Nat) (aW : Option Addr) (nW cW : Nat) (bs ws : List Int) (i n : Int) (w : World) (hB : Bs w aB nB cB bs) (hW : Is w aW nW cW ws) (hn : nB ≤ 2097152) (hm : nW ≤ 2097152)
    (h0 : -9223372036854775808 ≤ i) (h1 : i ≤ 9223372036854775807) (h2 : -9223372036854775808 ≤ n) (h3 : n ≤ 9223372036854775807) :
    Calls Try.prog 23 #[flV aB nB cB aW nW cW, .int .i64 i, .int .i64 n] w fun e w' => e = .returned (.bool (blankF bs ws i n)) ∧ Below w.heap.size w w' := by
  have HB : Hid (Below w.heap.size w (w.alloc (.cells #[.slice aB nB cB, .slice aW nW cW] 25))) := (Below.refl _ _).alloc (Nat.le_refl _) _
  have HA : Hid (Arr (w.alloc (.cells #[.slice aB nB cB, .slice aW nW cW] 25)) w.heap.size 25 [.slice aB nB cB, .slice aW nW cW]) := Arr.new _ _ _
  obtain ⟨r, hr⟩ : ∃ r, r = blankF bs ws i n := ⟨_, rfl⟩
  rw [← hr]
  have HR : Hid _ := hr
  clear hr
  go_enter Try.func23, Try.ntmps23
  go_wp2_with fail
  refine (implFlashOk aB nB cB aW nW cW bs ws _ (hB.below HB.out) (hW.below HB.out) hn hm).mono ?_
  rintro e w1 ⟨rfl, b1⟩
  have B1 := HB.out.trans (b1.mono HB.out.size)
  have A1 := Arr.kept HA.out b1
  have hB1 := hB.below B1
  have hW1 := hW.below B1
  clear HB HA b1 hB hW
  have hf : flOk bs ws = false ∨ flOk bs ws = true := by cases flOk bs ws <;> simp
  obtain ⟨f, hf'⟩ : ∃ f, f = flOk bs ws := ⟨_, rfl⟩
  rw [← hf'] at hf ⊢
  have HF : Hid _ := hf'
  clear hf'
  rcases hf with rfl | rfl
  · have : r = false := by rw [HR.out]; unfold blankF; rw [← HF.out]; rfl
    subst this
    go_wp2
    go_ret
    exact ⟨rfl, B1⟩
  · go_wp2_with fail
    refine (implPlace i n _ h0 h1 h2 h3).mono ?_
    rintro e w2 ⟨rfl, e2⟩
    rw [e2]
    clear e2
    have hi : inF i n = false ∨ inF i n = true := by cases inF i n <;> simp
    obtain ⟨f, hf'⟩ : ∃ f, f = inF i n := ⟨_, rfl⟩
    rw [← hf'] at hi ⊢
    have HI : Hid _ := hf'
    clear hf'
    rcases hi with rfl | rfl
    · have : r = false := by rw [HR.out]; unfold blankF; rw [← HI.out]; simp
      subst this
      go_wp2
      go_ret
      exact ⟨rfl, B1⟩
    · obtain ⟨g0, g1, g2⟩ := inF_iff.1 HI.out.symm
      obtain ⟨l1, l2, l3⟩ := flOk_iff.1 HF.out.symm
      have hbl := hB1.2.1
      have hcap := hB1.2.2.1
      obtain ⟨I, rfl⟩ : ∃ I : Nat, i = (I : Int) := ⟨i.toNat, by omega⟩
      obtain ⟨K, rfl⟩ : ∃ K : Nat, n = (K : Int) := ⟨n.toNat, by omega⟩
      have hIK : I + K ≤ nB := by omega
      have hs : (sub bs (I : Int) (K : Int)) = (bs.drop I).take K := by simp [sub]
      have hr : r = blk ((bs.drop I).take K) := by rw [HR.out]; unfold blankF; rw [← HI.out, ← HF.out, hs]; simp
      clear HR
      have HR : Hid _ := hr
      clear hr
      clear HI HF hs
      obtain ⟨q0, q1, q2, q3, q4⟩ := hB1
      rcases q4 with h | ⟨b, o, rfl, hb, hc⟩
      · omega
      have hM := Bs.mid (w := w1) (b := b) (o := o) (n := nB) (c := cB) (xs := bs) ⟨q0, q1, q2, q3, .inr ⟨b, o, rfl, hb, hc⟩⟩ I K hIK
      clear q0 q1 q2 q3 hc
      have c0 := A1.cell 0
      simp at c0
      by_cases hI : I = cB
      · have hK : K = 0 := by omega
        subst hK
        subst hI
        have hz : Bs w1 (some ⟨b, o, none⟩) 0 0 ((bs.drop I).take 0) := ⟨(fun h => by cases h), by simp, by omega, by simp, .inl rfl⟩
        go_wp2_with fail
        refine (hasWritten _ _ _ _ _ hz (by omega)).mono ?_
        rintro e w2 ⟨rfl, e2⟩
        rw [e2]
        clear e2
        obtain ⟨y, hy⟩ : ∃ y, y = blk ((bs.drop I).take 0) := ⟨_, rfl⟩
        rw [← hy]
        have HY : Hid _ := hy
        clear hy
        go_wp2
        go_ret
        exact ⟨by rw [HR.out, ← HY.out]; simp, B1⟩
      go_wp2_with fail
      refine (hasWritten _ _ _ _ _ hM (by omega)).mono ?_
      rintro e w2 ⟨rfl, e2⟩
      rw [e2]
      clear e2
      obtain ⟨y, hy⟩ : ∃ y, y = blk ((bs.drop I).take K) := ⟨_, rfl⟩
      rw [← hy]
      have HY : Hid _ := hy
      clear hy
      go_wp2
      go_ret
      exact ⟨by rw [HR.out, ← HY.out]; simp, B1⟩

set_option maxHeartbeats 1000000 in
theorem readAt_i (aB : Option Addr) (nB cB : Nat) (aW : Option Addr) (nW cW : Nat) (bs ws : List Int) (i n : Int) (w : World) (hB : Bs w aB nB cB bs) (hW : Is w aW nW cW ws) (hn : nB ≤ 2097152) (hm : nW ≤ 2097152)
    (h0 : -9223372036854775808 ≤ i) (h1 : i ≤ 9223372036854775807) (h2 : -9223372036854775808 ≤ n) (h3 : n ≤ 9223372036854775807) :
    Calls Try.prog 24 #[flV aB nB cB aW nW cW, .int .i64 i, .int .i64 n] w fun e w' => ∃ v, e = .returned (.tuple #[v, .int .i64 (rdC bs ws i n)]) ∧ w'.ownsRow w.heap.size 5 1 v (rdB bs ws i n).length (U8 (rdB bs ws i n)) ∧ Below w.heap.size w w' := by
  have HB : Hid (Below w.heap.size w (w.alloc (.cells #[.slice aB nB cB, .slice aW nW cW] 25))) := (Below.refl _ _).alloc (Nat.le_refl _) _
  have HA : Hid (Arr (w.alloc (.cells #[.slice aB nB cB, .slice aW nW cW] 25)) w.heap.size 25 [.slice aB nB cB, .slice aW nW cW]) := Arr.new _ _ _
  obtain ⟨r, hr⟩ : ∃ r, r = rdC bs ws i n := ⟨_, rfl⟩
  obtain ⟨L, hL⟩ : ∃ L, L = rdB bs ws i n := ⟨_, rfl⟩
  rw [← hr, ← hL]
  have HR : Hid _ := hr
  have HL : Hid _ := hL
  clear hr hL
  go_enter Try.func24, Try.ntmps24
  go_wp2_with fail
  refine (implFlashOk aB nB cB aW nW cW bs ws _ (hB.below HB.out) (hW.below HB.out) hn hm).mono ?_
  rintro e w1 ⟨rfl, b1⟩
  have B1 := HB.out.trans (b1.mono HB.out.size)
  have A1 := Arr.kept HA.out b1
  have hB1 := hB.below B1
  have hW1 := hW.below B1
  clear HB HA b1 hB hW
  have hf : flOk bs ws = false ∨ flOk bs ws = true := by cases flOk bs ws <;> simp
  obtain ⟨f, hf'⟩ : ∃ f, f = flOk bs ws := ⟨_, rfl⟩
  rw [← hf'] at hf ⊢
  have HF : Hid _ := hf'
  clear hf'
  rcases hf with rfl | rfl
  · have : r = 4 := by rw [HR.out]; unfold rdC; rw [← HF.out]; rfl
    subst this
    have : L = [] := by rw [HL.out]; unfold rdB; rw [← HF.out]; rfl
    subst this
    go_wp2
    go_ret2
    exact ⟨_, rfl, World.ownsRow_nil _ _ _ _, B1⟩
  · go_wp2_with fail
    refine (implPlace i n _ h0 h1 h2 h3).mono ?_
    rintro e w2 ⟨rfl, e2⟩
    rw [e2]
    clear e2
    have hi : inF i n = false ∨ inF i n = true := by cases inF i n <;> simp
    obtain ⟨f, hf'⟩ : ∃ f, f = inF i n := ⟨_, rfl⟩
    rw [← hf'] at hi ⊢
    have HI : Hid _ := hf'
    clear hf'
    rcases hi with rfl | rfl
    · have : r = 1 := by rw [HR.out]; unfold rdC; rw [← HI.out, ← HF.out]; rfl
      subst this
      have : L = [] := by rw [HL.out]; unfold rdB; rw [← HI.out]; simp
      subst this
      go_wp2
      go_ret2
      exact ⟨_, rfl, World.ownsRow_nil _ _ _ _, B1⟩
    · obtain ⟨g0, g1, g2⟩ := inF_iff.1 HI.out.symm
      obtain ⟨l1, l2, l3⟩ := flOk_iff.1 HF.out.symm
      have hbl := hB1.2.1
      have hcap := hB1.2.2.1
      obtain ⟨I, rfl⟩ : ∃ I : Nat, i = (I : Int) := ⟨i.toNat, by omega⟩
      obtain ⟨K, rfl⟩ : ∃ K : Nat, n = (K : Int) := ⟨n.toNat, by omega⟩
      have hIK : I + K ≤ nB := by omega
      have hs : (sub bs (I : Int) (K : Int)) = (bs.drop I).take K := by simp [sub]
      have hr : r = 0 := by rw [HR.out]; unfold rdC; rw [← HI.out, ← HF.out]; rfl
      have hL : L = (bs.drop I).take K := by rw [HL.out]; unfold rdB; rw [← HI.out, ← HF.out, hs]; rfl
      have hLl : L.length = K := by rw [hL]; simp; omega
      subst hr
      clear HR HL
      clear HI HF hs
      obtain ⟨q0, q1, q2, q3, q4⟩ := hB1
      rcases q4 with h | ⟨b, o, rfl, hb, hc⟩
      · omega
      have hM := Bs.mid (w := w1) (b := b) (o := o) (n := nB) (c := cB) (xs := bs) ⟨q0, q1, q2, q3, .inr ⟨b, o, rfl, hb, hc⟩⟩ I K hIK
      clear q0 q1 q2 q3 hc
      have c0 := A1.cell 0
      simp at c0
      have lt1 := A1.lt
      rw [← hL] at hM
      have HLL : Hid _ := hLl
      have HLE : Hid _ := hL
      clear hLl hL
      by_cases hI : I = cB
      · have hK : K = 0 := by omega
        subst hK
        subst hI
        have hz : Bs w1 (some ⟨b, o, none⟩) 0 0 L := ⟨(fun h => by cases h), by rw [HLE.out]; simp, by omega, by rw [HLE.out]; simp, .inl rfl⟩
        go_wp2_with fail
        refine (cloneB _ _ _ _ _ hz (by omega)).mono ?_
        rintro e w2 ⟨v, rfl, o2, b2⟩
        go_wp2
        go_ret2
        exact ⟨_, rfl, own_base (by rw [HLL.out]; exact o2) B1.size, B1.trans (b2.mono B1.size)⟩
      go_wp2_with fail
      refine (cloneB _ _ _ _ _ hM (by omega)).mono ?_
      rintro e w2 ⟨v, rfl, o2, b2⟩
      go_wp2
      go_ret2
      exact ⟨_, rfl, own_base (by rw [HLL.out]; exact o2) B1.size, B1.trans (b2.mono B1.size)⟩
end Go.Proofs.Ytcnlpdpbkkjkoaa

/-
  What is proved here: what the program's recordsIn tells a loop that ranges over it.
-/
import Derived.Test.YtgfjbaigmkdbcaaC1k
namespace Go.Proofs.Ytgfjbaigmkdbcaa
open Go.RowKit Go.Shelf
set_option maxRecDepth 100000
set_option maxHeartbeats 4000000
set_option linter.unusedVariables false
attribute [local go_sem] Oper.semAt_some

theorem roundIn_lvl {n m : Nat} {P : Program} {l l' : Nat} {f : FuncId} {tmps : Array Value} {assign body : Code} {w : World} {R : Ending → World → Prop} (h : RoundIn Fence.wide n P l f tmps assign body w R) : RoundIn (Fence.wide.inRound l') m P l f tmps assign body w R :=
  ⟨h.1, fun c cs _ => h.2 c cs (room_wide _)⟩
theorem KT.refl (W : World) : KT W W := ⟨Nat.le_refl _, fun _ _ _ _ hg _ _ => hg⟩
theorem recTells (m B pb b o c : Nat) (xs : List Int) (w0 W : World) (hx : Bs w0 (some ⟨b, o, none⟩) 256 c xs) (hb0 : Below w0.heap.size w0 W) (hB : B ≤ W.heap.size) (hp : Arr W pb 35 [.slice (some ⟨b, o, none⟩) 256 c]) :
    TellsO m Try.prog 140 #[.pointer (some ⟨pb, 0, none⟩)] (fun k => eR (rg (scR xs 32) k)) (scR xs 32).length (Kp3 w0.heap.size B) W := by
  intro lp J hJ hY h0
  have hwide : ∀ q : Nat, Fence.wide.depth.isSome = true → 1 ≤ q := fun q h => by cases h
  refine callsIn_of_wp_marks Try.func140 rfl trivial ?_ rfl
  simp only [Try.ntmps140, List.size_toArray, List.length_cons, List.length_nil, Nat.reduceAdd, Nat.reduceSub, Array.replicate_succ, Array.replicate_zero, List.push_toArray, List.append_toArray, List.nil_append, List.cons_append]
  obtain ⟨W0, hW0⟩ : ∃ W0, W0 = W.alloc (.cells #[.func (.yield lp) #[] #[]] 177) := ⟨_, rfl⟩
  have b1 : Below W.heap.size W W0 := by rw [hW0]; exact (Below.refl _ _).alloc (Nat.le_refl _) _
  have Y0 : Arr W0 W.heap.size 177 [.func (.yield lp) #[] #[]] := by rw [hW0]; exact Arr.new W [.func (.yield lp) #[] #[]] _
  have hp0 := hp.kept b1
  have cp : (W.alloc (.cells #[.func (.yield lp) #[] #[]] 177)).cell? ⟨pb, 0, none⟩ = some (.slice (some ⟨b, o, none⟩) 256 c) := by rw [← hW0]; exact hp0.cell 0
  gi_wp2_with fail
  rw [← hW0]
  clear hW0 cp
  refine ⟨trivial, hwide _, (callsIn_wide.2 (chunkNew b o c W0)).mono ?_⟩
  rintro e w1 ⟨rfl, hp1, hq1, hs1, hb1⟩
  have B1 := (hb0.trans (b1.mono hb0.size)).trans (hb1.mono (Nat.le_trans hb0.size b1.size))
  have Y1 := Y0.kept hb1
  have z0 : W.heap.size < W0.heap.size := Y0.lt
  have hJ1 : J 0 w1 := hJ 0 W w1 none h0 (grown_bel2 (b1.trans (hb1.mono b1.size))) (fun r e => by cases e)
  have hc := hx.2.2.1
  gi_wp2_with fail
  obtain ⟨y0, hy0⟩ : ∃ y0, y0 = W.heap.size := ⟨_, rfl⟩
  have hSy : y0 < w1.heap.size := by rw [hy0]; exact Y1.lt
  have hSw : w0.heap.size ≤ w1.heap.size := B1.size
  have hSB : B ≤ w1.heap.size := by omega
  have hWS : W.heap.size ≤ w1.heap.size := by omega
  rw [← hy0] at Y1 ⊢
  have HI : Abd w1.heap.size (RI w0 J xs lp y0 w1.heap.size) := RI.abd hJ hWS hSw hSy
  have HJ : Hid (Abd W.heap.size J) := hJ
  have HX : Hid (Bs w0 (some ⟨b, o, none⟩) 256 c xs) := hx
  have HY : Hid (∀ k A, k < (scR xs 32).length → J k A → YieldAt Fence.wide (m - 1) Try.prog lp (eR (rg (scR xs 32) k)) A fun e B' => e = .returned (.bool true) ∧ J (k + 1) B' ∧ Kp3 w0.heap.size B A B') := hY
  obtain ⟨p, hp⟩ : ∃ p, p = W0.heap.size := ⟨_, rfl⟩
  rw [← hp] at hp1 hq1 ⊢
  clear hp b1 Y0 hp0 hb1 z0 hJ hY h0 hx hy0
  refine range_tellsO (n := m) (gf := 155) (lb := #[.pointer (some ⟨p, 0, none⟩), .pointer (some ⟨p + 1, 0, none⟩)]) rfl (enters_of Try.func155 (by kernel_rfl) rfl)
    (encs := ePl b o) (N := 32) (Kp := KT) KT.trans (fun V o o' h hc => KT.put o' h hc)
    (fun V hb _ => chunkTells (m - 1) p (p + 1) b o c hc V (hp1.kept hb) (hq1.kept hb)) (fun _ => rfl)
    (RI w0 J xs lp y0 w1.heap.size) HI ⟨hJ1, Y1, B1, Nat.le_refl _⟩
    (fun k a' _ => a' = { tmps := #[.func (.yield lp) #[] #[], .pointer (some ⟨pb, 0, none⟩), .pointer (some ⟨y0, 0, none⟩), .slice (some ⟨b, o + 8 * k, none⟩) 8 8, undef, undef, .slice (some ⟨b, o, none⟩) 256 c, .func (.func 155) #[] #[.pointer (some ⟨p, 0, none⟩), .pointer (some ⟨p + 1, 0, none⟩)], .slice (some ⟨b, o + 8 * k, none⟩) 8 8, undef, undef, undef, undef, undef, undef, undef, undef, undef, undef, undef, undef], defers := [] })
    (fun _ _ _ _ _ _ _ h => h) ?assign ?body ?done
  case assign =>
    rintro l k V R hk hz hi hR
    gi_wp2
    exact hR _ _ (KT.refl _) (Same.refl _ _) hi rfl
  case body =>
    rintro l k a' V hk hz hnc hi rfl
    obtain ⟨hj, hyv, hbv, hzv⟩ := hi
    have hpl := bs_pl (HX.out.below hbv) hk
    gi_wp2_with fail
    refine ⟨trivial, hwide _, CallsIn.inRound l ((callsIn_wide.2 (implRecGet (some ⟨b, o + 8 * k, none⟩) 8 8 (pl xs k) _ (bs_cap hpl (Nat.le_refl _) (by simp)) (by omega))).mono ?_)⟩
    rintro e w2 ⟨rfl, b2⟩
    obtain ⟨r, hr⟩ : ∃ r, r = goR (pl xs k) := ⟨_, rfl⟩
    rw [show goV (pl xs k) = .tuple #[rcV r.k r.b r.n r.f, .bool (gOkB (pl xs k))] by rw [hr]]
    have HRx : Hid _ := hr
    obtain ⟨X, hXX⟩ : ∃ X, X = w2.alloc (.cells #[.int .i64 r.k, .int .i64 r.b, .int .i64 r.n, .int .i64 r.f] 144) := ⟨_, rfl⟩
    have bX : Below V.heap.size V X := b2.trans (by rw [hXX]; exact (Below.refl _ _).alloc b2.size _)
    have hjX : J (scR xs k).length X := HJ.out _ V X none hj (grown_bel2 bX) (fun r e => by cases e)
    have hyX := hyv.kept bX
    have hbX := hbv.trans (bX.mono hbv.size)
    have hzX := Nat.le_trans hzv bX.size
    have HSame : Hid (Same (fun b => b = w1.heap.size ∨ b = w1.heap.size + 1) V X) := ⟨bX.size, fun g _ hg => bX.block g hg⟩
    have HNC : Hid (∀ b, b = w1.heap.size ∨ b = w1.heap.size + 1 → ∃ o : Obj, X.heap[b]? = some o ∧ o.isCells = false) := fun g hg => by
      obtain ⟨o, ho, hc⟩ := hnc g hg
      exact ⟨o, (bX.block g (Array.getElem?_eq_some_iff.1 ho).1).trans ho, hc⟩
    have AX : Arr X w2.heap.size 144 [.int .i64 r.k, .int .i64 r.b, .int .i64 r.n, .int .i64 r.f] := by rw [hXX]; exact Arr.new _ _ _
    have HKX : Hid (KT V X) := KT.of_bel bX
    clear hj hyv hbv hzv hpl b2 bX hr hnc
    cases hG : gOkB (pl xs k) with
    | false =>
      have HE : Hid (scR xs (k + 1) = scR xs k) := by
        show scR xs k ++ _ = _
        rw [hG]
        simp
      have HF : Hid (RI w0 J xs lp y0 w1.heap.size (k + 1) X ∧ KT V X ∧ Same (fun b => b = w1.heap.size ∨ b = w1.heap.size + 1) V X) := ⟨⟨by rw [HE.out]; exact hjX, hyX, hbX, hzX⟩, HKX.out, HSame.out⟩
      clear HE hG hjX hyX hbX AX
      gi_wp2
      rw [← hXX]
      refine ⟨fun _ h => (by cases h), ?_⟩
      gi_wp2
      rw [← hXX]
      exact HF.out
    | true =>
      have hat := scR_at hk hG
      have HE : Hid ((scR xs (k + 1)).length = (scR xs k).length + 1) := by
        unfold Hid
        show (scR xs k ++ _).length = _
        rw [hG]
        simp
      obtain ⟨fn, tmps, assign, body, hyl, hRd⟩ := HY.out (scR xs k).length X hat.1 hjX
      rw [hat.2, ← HRx.out] at hyl
      dsimp only [eR] at hyl
      have cy := hyX.cell 0
      have d0 := AX.cell 0
      have d1 := AX.cell 1
      have d2 := AX.cell 2
      have d3 := AX.cell 3
      simp at cy d0 d1 d2 d3
      rw [hXX] at cy d0 d1 d2 d3 hyl
      clear hat hG
      gi_wp2
      rw [← hXX]
      refine ⟨hwide _, roundIn_lvl (hRd.mono ?_)⟩
      rintro e Z ⟨rfl, hJZ, hKZ⟩
      have HF : Hid (RI w0 J xs lp y0 w1.heap.size (k + 1) Z ∧ KT V Z ∧ Same (fun b => b = w1.heap.size ∨ b = w1.heap.size + 1) V Z) :=
        ⟨⟨by rw [HE.out]; exact hJZ, hyX.kt hKZ.t (by decide) (by decide), hbX.trans hKZ.b, Nat.le_trans hzX hKZ.t.1⟩, HKX.out.trans hKZ.t,
          ⟨Nat.le_trans HSame.out.1 hKZ.t.1, fun g hg hl => by
            obtain ⟨o, ho, hc⟩ := HNC.out g hg
            rw [hKZ.o g o (by rcases hg with rfl | rfl <;> omega) ho hc, ← ho]
            exact HSame.out.2 g hg hl⟩⟩
      clear cy d0 d1 d2 d3 hyl hRd hXX hjX hyX hbX AX HE
      gi_wp2
      exact HF.out
  case done =>
    intro V hi hd
    gi_wp2
    refine ⟨by simp, .inl ⟨_, _, rfl, run_takeDeferred hd, ?_⟩⟩
    exact ⟨_, results_none rfl _ _ _, ⟨_, rfl⟩, HJ.out _ V _ (some w1.heap.size) hi.j (grownBy_putObj' V w1.heap.size _) (fun r e => by cases e; exact ⟨hWS, _, hd, rfl⟩)⟩
end Go.Proofs.Ytgfjbaigmkdbcaa

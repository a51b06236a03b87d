/-
  What is proved here: what the specification's BundleText answers; what the program's BundleText answers.
-/
import Derived.Test.YtgfjbaigmkdbcaaDoorJB18
namespace Go.Proofs.YtgfjbaigmkdbcaaDoor
open Go.RowKit
set_option maxRecDepth 100000
set_option maxHeartbeats 8000000
set_option linter.unusedVariables false

theorem specBundleText (pa : Option Addr) (pn pc : Nat) (na : Option Addr) (nn nc : Nat) (B : BunM) (w : World) (hp : Ps w pa pn pc B.ps) (hn : Ns w na nn nc B.ns) :
    Calls Tryd.prog 8 #[bunV B.d B.n B.f pa pn pc na nn nc] w fun e w' => ∃ v, e = .returned v ∧ w'.ownsRow w.heap.size 5 1 v (txB B).length (U8 (txB B)) ∧ Below w.heap.size w w' := by
  have HT : Hid (True) := trivial
  obtain ⟨V, hV⟩ : ∃ V, V = w.alloc (.cells #[.int .i64 B.d, .int .i64 B.n, .int .i64 B.f, .slice pa pn pc, .slice na nn nc] 32) := ⟨_, rfl⟩
  have A : Arr V w.heap.size 32 [.int .i64 B.d, .int .i64 B.n, .int .i64 B.f, .slice pa pn pc, .slice na nn nc] := by rw [hV]; exact Arr.new _ _ _
  have Bl : Below w.heap.size w V := by rw [hV]; exact (Below.refl _ _).alloc (Nat.le_refl _) _
  have HPl : Hid (B.ps.length = pn) := hp.2.1
  have HNl : Hid (B.ns.length = nn) := hn.2.1
  have HB : Hid (∀ Z, Below w.heap.size w Z → Calls Tryd.prog 27 #[bunV B.d B.n B.f pa pn pc na nn nc] Z fun e w' => e = .returned (.bool (bOk B)) ∧ Below Z.heap.size Z w') := by
    unfold Hid; intro Z hZ; exact spec8BundleOk pa pn pc na nn nc B Z (hp.below hZ) (hn.below hZ)
  have HLy : Hid (bOk B = true → txX B pn nn = txB B) := fun h => by
    rw [← HPl.out, ← HNl.out]
    exact (if_pos h).symm
  have HLn : Hid (bOk B = false → txB B = []) := fun h => if_neg (by rw [h]; decide)
  have HL : Hid (bOk B = true → TxOk B) := fun h => tx_ok ((bOk_iff B).1 h)
  have HPs : Hid (Ps w pa pn pc B.ps) := hp
  have HNs : Hid (Ns w na nn nc B.ns) := hn
  generalize bOk B = q at HB HLy HLn HL
  generalize txB B = LL at HLy HLn ⊢
  obtain ⟨M, hM⟩ : ∃ M, M = B := ⟨_, rfl⟩
  rw [← hM] at HLy HL
  have HMp : Hid (M.ps = B.ps) := by unfold Hid; rw [hM]
  have HMn : Hid (M.ns = B.ns) := by unfold Hid; rw [hM]
  have HM0 : Hid (txX M 0 0 = lnL (stB ⟨#[98, 117, 110, 100, 108, 101]⟩) [B.n, B.d, B.f]) := by unfold Hid; rw [hM]; unfold txX; simp
  have HMh : Hid (M.n = B.n ∧ M.d = B.d ∧ M.f = B.f) := by unfold Hid; rw [hM]; exact ⟨rfl, rfl, rfl⟩
  obtain ⟨d, n, f, ps, ns⟩ := B
  simp only [] at *
  clear hp hn hM
  have c0 := A.cell 0
  have c1 := A.cell 1
  have c2 := A.cell 2
  have c3 := A.cell 3
  have c4 := A.cell 4
  simp at c0 c1 c2 c3 c4
  go_enter Tryd.func8, Tryd.ntmps8
  go_upto_region 1 with fail
  rw [← hV]
  clear hV
  go_wp2_with fail
  refine (HB.out _ Bl).mono ?_
  rintro e w1 ⟨rfl, b1⟩
  replace A := A.kept b1
  replace Bl := Bl.trans (b1.mono Bl.size)
  clear c0 c1 c2 c3 c4 b1 HB
  cases q with
  | false =>
    go_wp2
    go_ret
    exact ⟨_, rfl, by rw [HLn.out (by first | rfl | trivial)]; exact World.ownsRow_nil _ _ _ _, Bl⟩
  | true =>
    replace HLy : Hid (txX M pn nn = LL) := HLy.out (by first | rfl | trivial)
    replace HL : Hid (TxOk M) := HL.out (by first | rfl | trivial)
    have hpn : pn ≤ 4 := by rw [← HPl.out, ← HMp.out]; exact HL.out.pl
    have hnn : nn ≤ 8 := by rw [← HNl.out, ← HMn.out]; exact HL.out.nl
    have HH : Hid (nsOk [n, d, f]) := by
      have := HL.out.h
      rw [HMh.out.1, HMh.out.2.1, HMh.out.2.2] at this
      exact this
    clear HLn
    have c0 := A.cell 0
    have c1 := A.cell 1
    have c2 := A.cell 2
    have c3 := A.cell 3
    have c4 := A.cell 4
    simp at c0 c1 c2 c3 c4
    go_wp2_with fail
    refine Calls.mono (specLit ⟨#[98, 117, 110, 100, 108, 101]⟩ [n, d, f] 3 w1 (by decide) rfl (by omega) HH.out) ?_
    rintro e w2 ⟨v2, rfl, o2, hb⟩
    have HO0 : Hid (w2.ownsRow w1.heap.size 5 1 v2 (txX M 0 0).length (U8 (txX M 0 0))) := by
      unfold Hid
      rw [HM0.out]
      exact o2
    have B : Below w1.heap.size w1 w2 := hb
    have HA1 : Hid (Arr w1 w.heap.size 32 [.int .i64 d, .int .i64 n, .int .i64 f, .slice pa pn pc, .slice na nn nc]) := A
    have HB1w : Hid (Below w.heap.size w w1) := Bl
    have hwz : w.heap.size < w1.heap.size := A.lt
    replace A := A.kept hb
    clear hb o2 c0 c1 c2 c3 c4 HH Bl
    have c0 := A.cell 0
    have c1 := A.cell 1
    have c2 := A.cell 2
    have c3 := A.cell 3
    have c4 := A.cell 4
    simp at c0 c1 c2 c3 c4
    go_wp2
    clear c0 c1 c2 c3 c4
    go_loopw [3, 4] (fun v i wr => ∃ k : Nat, k ≤ pn ∧ i = .int .i64 k ∧ Hid (wr.ownsRow w1.heap.size 5 1 v (txX M k 0).length (U8 (txX M k 0))) ∧ Below w1.heap.size w1 wr) (fun _ i _ => pn - (intOf i).toNat)
    case atStart => exact ⟨0, by omega, rfl, HO0, B⟩
    case round =>
      clear HO0 A B
      obtain ⟨k, hk, rfl, HO, B⟩ := hrel
      have A := HA1.out.below B hwz
      have Bl := HB1w.out.trans (B.mono (Nat.le_of_lt hwz))
      by_cases hlt : (k : Int) < (pn : Int)
      · obtain ⟨b, o, rfl, hbs, hcell⟩ := (HPs.out.below Bl).opened (by omega)
        obtain ⟨ha, hc, P⟩ := hcell k (by omega)
        have HS : Hid (txX M (k + 1) 0 = txX M k 0 ++ txP (ps.getD k pz)) := by
          have := txX_p M k (by rw [HMp.out, HPl.out]; omega)
          rw [HMp.out] at this
          exact this
        have HV : Hid (nsOk [(ps.getD k pz).k, (ps.getD k pz).v, (ps.getD k pz).s]) := by
          have := HL.out.p k (by rw [HMp.out, HPl.out]; omega)
          rw [HMp.out] at this
          exact this
        obtain ⟨x, hx⟩ : ∃ x, x = ps.getD k pz := ⟨_, rfl⟩
        rw [← hx] at P HS HV
        obtain ⟨x0, x1, x2, ph⟩ := x
        obtain ⟨q1, q2, q3, q4, _⟩ := P
        simp only [] at q1 q2 q3 q4
        clear hx hcell
        have HLn2 : Hid ((txX M k 0).length ≤ 1000) := txX_len HL.out _ _
        have c0 := A.cell 0
        have c1 := A.cell 1
        have c2 := A.cell 2
        have c3 := A.cell 3
        have c4 := A.cell 4
        simp at c0 c1 c2 c3 c4
        have hal := A.lt
        go_upto_region 8 with fail
        obtain ⟨Z, hZ⟩ : ∃ Z, Z = wr.alloc (.cells #[.int .i64 x0, .int .i64 x1, .int .i64 x2, .slice ha ph.length hc] 63) := ⟨_, rfl⟩
        have bV : Below wr.heap.size wr Z := by rw [hZ]; exact (Below.refl _ _).alloc (Nat.le_refl _) _
        have D : Arr Z wr.heap.size 63 [.int .i64 x0, .int .i64 x1, .int .i64 x2, .slice ha ph.length hc] := by rw [hZ]; exact Arr.new _ _ _
        rw [← hZ]
        obtain ⟨g, hg⟩ : ∃ g, g = wr.heap.size := ⟨_, rfl⟩
        rw [← hg] at D ⊢
        replace A := A.kept bV
        replace B := B.trans (bV.mono B.size)
        replace Bl := Bl.trans (bV.mono Bl.size)
        have HO1 : Hid (Z.ownsRow w1.heap.size 5 1 u3 (txX M k 0).length (U8 (txX M k 0))) := own_below HO.out bV
        clear hZ bV hg q1 q2 q3 q4 hbs HO hal c0 c1 c2 c3 c4
        have d0 := D.cell 0
        have d1 := D.cell 1
        have d2 := D.cell 2
        simp at d0 d1 d2
        go_wp2_with fail
        refine Calls.mono (specLitOn w1.heap.size u3 _ _ ⟨#[112, 97, 114, 116]⟩ [x0, x1, x2] 3 Z HO1.out B.size (Nat.le_trans HLn2.out (by omega)) (by decide) rfl (by omega) HV.out) ?_
        rintro e y ⟨v3, rfl, o3, hb⟩
        have HN : Hid (y.ownsRow w1.heap.size 5 1 v3 (txX M (k + 1) 0).length (U8 (txX M (k + 1) 0))) := by
          unfold Hid
          rw [HS.out]
          exact o3
        replace B := B.trans hb
        clear hb o3 HO1 D Bl d0 d1 d2
        clear HS HV HLn2 A
        go_wp2
        go_roundw
        case rel => exact ⟨k + 1, by omega, by go_num, HN, B⟩
        case measure => simp [intOf]; omega
      · have hkn : pn = k := by omega
        subst hkn
        replace HO : Hid (wr.ownsRow w1.heap.size 5 1 u3 (txX M pn 0).length (U8 (txX M pn 0))) := HO
        have c0 := A.cell 0
        have c1 := A.cell 1
        have c2 := A.cell 2
        have c3 := A.cell 3
        have c4 := A.cell 4
        simp at c0 c1 c2 c3 c4
        go_wp2
        clear c0 c1 c2 c3 c4
        go_loopw [3, 6] (fun v i wr => ∃ k : Nat, k ≤ nn ∧ i = .int .i64 k ∧ Hid (wr.ownsRow w1.heap.size 5 1 v (txX M pn k).length (U8 (txX M pn k))) ∧ Below w1.heap.size w1 wr) (fun _ i _ => nn - (intOf i).toNat)
        case atStart => exact ⟨0, by omega, rfl, HO, B⟩
        case round =>
          clear HO A Bl B
          obtain ⟨k, hk, rfl, HO, B⟩ := hrel
          have A := HA1.out.below B hwz
          have Bl := HB1w.out.trans (B.mono (Nat.le_of_lt hwz))
          by_cases hlt : (k : Int) < (nn : Int)
          · obtain ⟨b, o, rfl, hbs, hcell⟩ : ∃ b o, na = some ⟨b, o, none⟩ ∧ b < wr.heap.size ∧ ∀ i, i < nn → NeedAt wr b (o + i * 4) (ns.getD i nz) := by
              rcases (HNs.out.below Bl).2.2.2 with hq | hq
              · omega
              · exact hq
            have P := hcell k (by omega)
            have HS : Hid (txX M pn (k + 1) = txX M pn k ++ txN (ns.getD k nz)) := by
              have := txX_n M pn k (by rw [HMn.out, HNl.out]; omega)
              rw [HMn.out] at this
              exact this
            have HV : Hid (nsOk [(ns.getD k nz).o, (ns.getD k nz).k, (ns.getD k nz).f, (ns.getD k nz).t]) := by
              have := HL.out.n k (by rw [HMn.out, HNl.out]; omega)
              rw [HMn.out] at this
              exact this
            obtain ⟨x, hx⟩ : ∃ x, x = ns.getD k nz := ⟨_, rfl⟩
            rw [← hx] at P HS HV
            obtain ⟨x0, x1, x2, x3⟩ := x
            obtain ⟨q1, q2, q3, q4⟩ := P
            simp only [] at q1 q2 q3 q4
            clear hx hcell
            have HLn2 : Hid ((txX M pn k).length ≤ 1000) := txX_len HL.out _ _
            have c0 := A.cell 0
            have c1 := A.cell 1
            have c2 := A.cell 2
            have c3 := A.cell 3
            have c4 := A.cell 4
            simp at c0 c1 c2 c3 c4
            have hal := A.lt
            go_upto_region 13 with fail
            obtain ⟨Z, hZ⟩ : ∃ Z, Z = wr.alloc (.cells #[.int .i64 x0, .int .i64 x1, .int .i64 x2, .int .i64 x3] 65) := ⟨_, rfl⟩
            have bV : Below wr.heap.size wr Z := by rw [hZ]; exact (Below.refl _ _).alloc (Nat.le_refl _) _
            have D : Arr Z wr.heap.size 65 [.int .i64 x0, .int .i64 x1, .int .i64 x2, .int .i64 x3] := by rw [hZ]; exact Arr.new _ _ _
            rw [← hZ]
            obtain ⟨g, hg⟩ : ∃ g, g = wr.heap.size := ⟨_, rfl⟩
            rw [← hg] at D ⊢
            replace A := A.kept bV
            replace B := B.trans (bV.mono B.size)
            replace Bl := Bl.trans (bV.mono Bl.size)
            have HO1 : Hid (Z.ownsRow w1.heap.size 5 1 u3 (txX M pn k).length (U8 (txX M pn k))) := own_below HO.out bV
            clear hZ bV hg q1 q2 q3 q4 hbs HO hal c0 c1 c2 c3 c4
            have d0 := D.cell 0
            have d1 := D.cell 1
            have d2 := D.cell 2
            have d3 := D.cell 3
            simp at d0 d1 d2 d3
            go_wp2_with fail
            refine Calls.mono (specLitOn w1.heap.size u3 _ _ ⟨#[110, 101, 101, 100]⟩ [x0, x3, x1, x2] 4 Z HO1.out B.size (Nat.le_trans HLn2.out (by omega)) (by decide) rfl (by omega) HV.out) ?_
            rintro e y ⟨v3, rfl, o3, hb⟩
            have HN : Hid (y.ownsRow w1.heap.size 5 1 v3 (txX M pn (k + 1)).length (U8 (txX M pn (k + 1)))) := by
              unfold Hid
              rw [HS.out]
              exact o3
            replace B := B.trans hb
            clear hb o3 HO1 D Bl d0 d1 d2 d3
            clear HS HV HLn2 A
            go_wp2
            go_roundw
            case rel => exact ⟨k + 1, by omega, by go_num, HN, B⟩
            case measure => simp [intOf]; omega
          · have hkn : nn = k := by omega
            subst hkn
            rw [HLy.out] at HO
            have c0 := A.cell 0
            have c1 := A.cell 1
            have c2 := A.cell 2
            have c3 := A.cell 3
            have c4 := A.cell 4
            simp at c0 c1 c2 c3 c4
            go_wp2
            go_ret
            exact ⟨_, rfl, own_base HO.out (Nat.le_of_lt hwz), Bl⟩
end Go.Proofs.YtgfjbaigmkdbcaaDoor
namespace Go.Proofs.YtgfjbaigmkdbcaaDoor
open Go.RowKit
set_option maxRecDepth 100000
set_option maxHeartbeats 8000000
set_option linter.unusedVariables false

theorem implBundleText (pa : Option Addr) (pn pc : Nat) (na : Option Addr) (nn nc : Nat) (B : BunM) (w : World) (hp : Ps w pa pn pc B.ps) (hn : Ns w na nn nc B.ns) (ht : Pow w) :
    Calls Tryd.prog 10 #[bunV B.d B.n B.f pa pn pc na nn nc] w fun e w' => ∃ v, e = .returned v ∧ ownM w' w.heap.size v (txB B).length (txB B) ∧ Below w.heap.size w w' := by
  have HT : Hid (Pow w) := ht
  obtain ⟨V, hV⟩ : ∃ V, V = w.alloc (.cells #[.int .i64 B.d, .int .i64 B.n, .int .i64 B.f, .slice pa pn pc, .slice na nn nc] 32) := ⟨_, rfl⟩
  have A : Arr V w.heap.size 32 [.int .i64 B.d, .int .i64 B.n, .int .i64 B.f, .slice pa pn pc, .slice na nn nc] := by rw [hV]; exact Arr.new _ _ _
  have Bl : Below w.heap.size w V := by rw [hV]; exact (Below.refl _ _).alloc (Nat.le_refl _) _
  have HPl : Hid (B.ps.length = pn) := hp.2.1
  have HNl : Hid (B.ns.length = nn) := hn.2.1
  have HB : Hid (∀ Z, Below w.heap.size w Z → Calls Tryd.prog 31 #[bunV B.d B.n B.f pa pn pc na nn nc] Z fun e w' => e = .returned (.bool (bOk B)) ∧ Below Z.heap.size Z w') := by
    unfold Hid; intro Z hZ; exact implBundleOk pa pn pc na nn nc B Z (hp.below hZ) (hn.below hZ)
  have HLy : Hid (bOk B = true → txX B pn nn = txB B) := fun h => by
    rw [← HPl.out, ← HNl.out]
    exact (if_pos h).symm
  have HLn : Hid (bOk B = false → txB B = []) := fun h => if_neg (by rw [h]; decide)
  have HL : Hid (bOk B = true → TxOk B) := fun h => tx_ok ((bOk_iff B).1 h)
  have HPs : Hid (Ps w pa pn pc B.ps) := hp
  have HNs : Hid (Ns w na nn nc B.ns) := hn
  generalize bOk B = q at HB HLy HLn HL
  generalize txB B = LL at HLy HLn ⊢
  obtain ⟨M, hM⟩ : ∃ M, M = B := ⟨_, rfl⟩
  rw [← hM] at HLy HL
  have HMp : Hid (M.ps = B.ps) := by unfold Hid; rw [hM]
  have HMn : Hid (M.ns = B.ns) := by unfold Hid; rw [hM]
  have HM0 : Hid (txX M 0 0 = lnL (stB ⟨#[98, 117, 110, 100, 108, 101]⟩) [B.n, B.d, B.f]) := by unfold Hid; rw [hM]; unfold txX; simp
  have HMh : Hid (M.n = B.n ∧ M.d = B.d ∧ M.f = B.f) := by unfold Hid; rw [hM]; exact ⟨rfl, rfl, rfl⟩
  obtain ⟨d, n, f, ps, ns⟩ := B
  simp only [] at *
  clear hp hn hM
  have c0 := A.cell 0
  have c1 := A.cell 1
  have c2 := A.cell 2
  have c3 := A.cell 3
  have c4 := A.cell 4
  simp at c0 c1 c2 c3 c4
  go_enter Tryd.func10, Tryd.ntmps10
  go_upto_region 1 with fail
  rw [← hV]
  clear hV
  go_wp2_with fail
  refine (HB.out _ Bl).mono ?_
  rintro e w1 ⟨rfl, b1⟩
  replace A := A.kept b1
  replace Bl := Bl.trans (b1.mono Bl.size)
  clear c0 c1 c2 c3 c4 b1 HB
  cases q with
  | false =>
    go_wp2
    go_ret
    exact ⟨_, rfl, by rw [HLn.out (by first | rfl | trivial)]; exact .of (World.ownsRow_nil _ _ _ _), Bl⟩
  | true =>
    replace HLy : Hid (txX M pn nn = LL) := HLy.out (by first | rfl | trivial)
    replace HL : Hid (TxOk M) := HL.out (by first | rfl | trivial)
    have hpn : pn ≤ 4 := by rw [← HPl.out, ← HMp.out]; exact HL.out.pl
    have hnn : nn ≤ 8 := by rw [← HNl.out, ← HMn.out]; exact HL.out.nl
    have HH : Hid (nsOk [n, d, f]) := by
      have := HL.out.h
      rw [HMh.out.1, HMh.out.2.1, HMh.out.2.2] at this
      exact this
    clear HLn
    have c0 := A.cell 0
    have c1 := A.cell 1
    have c2 := A.cell 2
    have c3 := A.cell 3
    have c4 := A.cell 4
    simp at c0 c1 c2 c3 c4
    go_wp2_with fail
    refine Calls.mono (implLit ⟨#[98, 117, 110, 100, 108, 101]⟩ [n, d, f] 3 w1 (pow_below HT.out Bl) (by decide) rfl (by omega) HH.out) ?_
    rintro e w2 ⟨v2, rfl, o2, hb⟩
    have HO0 : Hid (ownM w2 w1.heap.size v2 (txX M 0 0).length (txX M 0 0)) := by
      unfold Hid
      rw [HM0.out]
      exact o2
    have B : Below w1.heap.size w1 w2 := hb
    have HA1 : Hid (Arr w1 w.heap.size 32 [.int .i64 d, .int .i64 n, .int .i64 f, .slice pa pn pc, .slice na nn nc]) := A
    have HB1w : Hid (Below w.heap.size w w1) := Bl
    have hwz : w.heap.size < w1.heap.size := A.lt
    replace A := A.kept hb
    clear hb o2 c0 c1 c2 c3 c4 HH Bl
    have c0 := A.cell 0
    have c1 := A.cell 1
    have c2 := A.cell 2
    have c3 := A.cell 3
    have c4 := A.cell 4
    simp at c0 c1 c2 c3 c4
    go_wp2
    clear c0 c1 c2 c3 c4
    go_loopw [3, 22] (fun v i wr => ∃ k : Nat, k ≤ pn ∧ i = .int .i64 k ∧ Hid (ownM wr w1.heap.size v (txX M k 0).length (txX M k 0)) ∧ Below w1.heap.size w1 wr) (fun _ i _ => pn - (intOf i).toNat)
    case atStart => exact ⟨0, by omega, rfl, HO0, B⟩
    case round =>
      clear HO0 A B
      obtain ⟨k, hk, rfl, HO, B⟩ := hrel
      have A := HA1.out.below B hwz
      have Bl := HB1w.out.trans (B.mono (Nat.le_of_lt hwz))
      by_cases hlt : (k : Int) < (pn : Int)
      · obtain ⟨a1, k1, rfl, hB1⟩ := HO.out.bs (txX_byte _ _ _)
        have HB1 : Hid (Bs wr a1 (txX M k 0).length k1 (txX M k 0)) := hB1
        clear hB1
        obtain ⟨b, o, rfl, hbs, hcell⟩ := (HPs.out.below Bl).opened (by omega)
        obtain ⟨ha, hc, P⟩ := hcell k (by omega)
        have HS : Hid (txX M (k + 1) 0 = txX M k 0 ++ txP (ps.getD k pz)) := by
          have := txX_p M k (by rw [HMp.out, HPl.out]; omega)
          rw [HMp.out] at this
          exact this
        have HV : Hid (nsOk [(ps.getD k pz).k, (ps.getD k pz).v, (ps.getD k pz).s]) := by
          have := HL.out.p k (by rw [HMp.out, HPl.out]; omega)
          rw [HMp.out] at this
          exact this
        obtain ⟨x, hx⟩ : ∃ x, x = ps.getD k pz := ⟨_, rfl⟩
        rw [← hx] at P HS HV
        obtain ⟨x0, x1, x2, ph⟩ := x
        obtain ⟨q1, q2, q3, q4, _⟩ := P
        simp only [] at q1 q2 q3 q4
        clear hx hcell
        have HLn2 : Hid ((txX M k 0).length ≤ 1000) := txX_len HL.out _ _
        have HLt : Hid ((txP ⟨x0, x1, x2, ph⟩).length ≤ 40) := txP_len HV.out
        have c0 := A.cell 0
        have c1 := A.cell 1
        have c2 := A.cell 2
        have c3 := A.cell 3
        have c4 := A.cell 4
        simp at c0 c1 c2 c3 c4
        have hal := A.lt
        go_upto_region 7 with fail
        obtain ⟨Z, hZ⟩ : ∃ Z, Z = wr.alloc (.cells #[.int .i64 x0, .int .i64 x1, .int .i64 x2, .slice ha ph.length hc] 63) := ⟨_, rfl⟩
        have bV : Below wr.heap.size wr Z := by rw [hZ]; exact (Below.refl _ _).alloc (Nat.le_refl _) _
        have D : Arr Z wr.heap.size 63 [.int .i64 x0, .int .i64 x1, .int .i64 x2, .slice ha ph.length hc] := by rw [hZ]; exact Arr.new _ _ _
        rw [← hZ]
        obtain ⟨g, hg⟩ : ∃ g, g = wr.heap.size := ⟨_, rfl⟩
        rw [← hg] at D ⊢
        replace A := A.kept bV
        replace B := B.trans (bV.mono B.size)
        replace Bl := Bl.trans (bV.mono Bl.size)
        replace HB1 : Hid (Bs Z a1 (txX M k 0).length k1 (txX M k 0)) := HB1.out.below bV
        clear hZ bV hg q1 q2 q3 q4 hbs HO hal c0 c1 c2 c3 c4
        have d0 := D.cell 0
        have d1 := D.cell 1
        have d2 := D.cell 2
        simp at d0 d1 d2
        go_wp2_with fail
        refine Calls.mono (implLit ⟨#[112, 97, 114, 116]⟩ [x0, x1, x2] 3 Z (pow_below HT.out Bl) (by decide) rfl (by omega) HV.out) ?_
        rintro e y0 ⟨v3, rfl, o3, hb⟩
        obtain ⟨a2, k2, rfl, hB2⟩ := o3.bs (lnL_byte _ _)
        have HB2 : Hid (Bs y0 a2 (txP ⟨x0, x1, x2, ph⟩).length k2 (txP ⟨x0, x1, x2, ph⟩)) := hB2
        replace HB1 : Hid (Bs y0 a1 (txX M k 0).length k1 (txX M k 0)) := HB1.out.below hb
        replace A := A.kept hb
        replace B := B.trans (hb.mono B.size)
        clear hb o3 hB2 D Bl d0 d1 d2
        go_wp2_with fail
        have eA := Arr.new y0 [.slice a1 (txX M k 0).length k1, .slice a2 (txP ⟨x0, x1, x2, ph⟩).length k2] 27
        have b4 : Below y0.heap.size y0 (y0.alloc (.cells #[.slice a1 (txX M k 0).length k1, .slice a2 (txP ⟨x0, x1, x2, ph⟩).length k2] 27)) := (Below.refl _ _).alloc (Nat.le_refl _) _
        have lx := HLn2.out
        have ly := HLt.out
        refine Calls.mono (concat2 y0.heap.size a1 a2 (txX M k 0).length k1 (txP ⟨x0, x1, x2, ph⟩).length k2 (txX M k 0) (txP ⟨x0, x1, x2, ph⟩) _ eA.lt (eA.cell 0) (eA.cell 1) (HB1.out.below b4) (HB2.out.below b4) (by omega) (by omega)) ?_
        rintro e y ⟨v4, rfl, o4, hb⟩
        have HN : Hid (ownM y w1.heap.size v4 (txX M (k + 1) 0).length (txX M (k + 1) 0)) := by
          unfold Hid
          rw [HS.out, List.length_append]
          exact .of (own_base o4 (Nat.le_trans B.size b4.size))
        replace B := (B.trans (b4.mono B.size)).trans (hb.mono (Nat.le_trans B.size b4.size))
        clear hb o4 b4 eA lx ly
        clear HS HV HLn2 A HLt HB1 HB2
        go_wp2
        go_roundw
        case rel => exact ⟨k + 1, by omega, by go_num, HN, B⟩
        case measure => simp [intOf]; omega
      · have hkn : pn = k := by omega
        subst hkn
        replace HO : Hid (ownM wr w1.heap.size u3 (txX M pn 0).length (txX M pn 0)) := HO
        have c0 := A.cell 0
        have c1 := A.cell 1
        have c2 := A.cell 2
        have c3 := A.cell 3
        have c4 := A.cell 4
        simp at c0 c1 c2 c3 c4
        go_wp2
        clear c0 c1 c2 c3 c4
        go_loopw [3, 41] (fun v i wr => ∃ k : Nat, k ≤ nn ∧ i = .int .i64 k ∧ Hid (ownM wr w1.heap.size v (txX M pn k).length (txX M pn k)) ∧ Below w1.heap.size w1 wr) (fun _ i _ => nn - (intOf i).toNat)
        case atStart => exact ⟨0, by omega, rfl, HO, B⟩
        case round =>
          clear HO A Bl B
          obtain ⟨k, hk, rfl, HO, B⟩ := hrel
          have A := HA1.out.below B hwz
          have Bl := HB1w.out.trans (B.mono (Nat.le_of_lt hwz))
          by_cases hlt : (k : Int) < (nn : Int)
          · obtain ⟨a1, k1, rfl, hB1⟩ := HO.out.bs (txX_byte _ _ _)
            have HB1 : Hid (Bs wr a1 (txX M pn k).length k1 (txX M pn k)) := hB1
            clear hB1
            obtain ⟨b, o, rfl, hbs, hcell⟩ : ∃ b o, na = some ⟨b, o, none⟩ ∧ b < wr.heap.size ∧ ∀ i, i < nn → NeedAt wr b (o + i * 4) (ns.getD i nz) := by
              rcases (HNs.out.below Bl).2.2.2 with hq | hq
              · omega
              · exact hq
            have P := hcell k (by omega)
            have HS : Hid (txX M pn (k + 1) = txX M pn k ++ txN (ns.getD k nz)) := by
              have := txX_n M pn k (by rw [HMn.out, HNl.out]; omega)
              rw [HMn.out] at this
              exact this
            have HV : Hid (nsOk [(ns.getD k nz).o, (ns.getD k nz).k, (ns.getD k nz).f, (ns.getD k nz).t]) := by
              have := HL.out.n k (by rw [HMn.out, HNl.out]; omega)
              rw [HMn.out] at this
              exact this
            obtain ⟨x, hx⟩ : ∃ x, x = ns.getD k nz := ⟨_, rfl⟩
            rw [← hx] at P HS HV
            obtain ⟨x0, x1, x2, x3⟩ := x
            obtain ⟨q1, q2, q3, q4⟩ := P
            simp only [] at q1 q2 q3 q4
            clear hx hcell
            have HLn2 : Hid ((txX M pn k).length ≤ 1000) := txX_len HL.out _ _
            have HLt : Hid ((txN ⟨x0, x1, x2, x3⟩).length ≤ 40) := txN_len HV.out
            have c0 := A.cell 0
            have c1 := A.cell 1
            have c2 := A.cell 2
            have c3 := A.cell 3
            have c4 := A.cell 4
            simp at c0 c1 c2 c3 c4
            have hal := A.lt
            go_upto_region 12 with fail
            obtain ⟨Z, hZ⟩ : ∃ Z, Z = wr.alloc (.cells #[.int .i64 x0, .int .i64 x1, .int .i64 x2, .int .i64 x3] 65) := ⟨_, rfl⟩
            have bV : Below wr.heap.size wr Z := by rw [hZ]; exact (Below.refl _ _).alloc (Nat.le_refl _) _
            have D : Arr Z wr.heap.size 65 [.int .i64 x0, .int .i64 x1, .int .i64 x2, .int .i64 x3] := by rw [hZ]; exact Arr.new _ _ _
            rw [← hZ]
            obtain ⟨g, hg⟩ : ∃ g, g = wr.heap.size := ⟨_, rfl⟩
            rw [← hg] at D ⊢
            replace A := A.kept bV
            replace B := B.trans (bV.mono B.size)
            replace Bl := Bl.trans (bV.mono Bl.size)
            replace HB1 : Hid (Bs Z a1 (txX M pn k).length k1 (txX M pn k)) := HB1.out.below bV
            clear hZ bV hg q1 q2 q3 q4 hbs HO hal c0 c1 c2 c3 c4
            have d0 := D.cell 0
            have d1 := D.cell 1
            have d2 := D.cell 2
            have d3 := D.cell 3
            simp at d0 d1 d2 d3
            go_wp2_with fail
            refine Calls.mono (implLit ⟨#[110, 101, 101, 100]⟩ [x0, x3, x1, x2] 4 Z (pow_below HT.out Bl) (by decide) rfl (by omega) HV.out) ?_
            rintro e y0 ⟨v3, rfl, o3, hb⟩
            obtain ⟨a2, k2, rfl, hB2⟩ := o3.bs (lnL_byte _ _)
            have HB2 : Hid (Bs y0 a2 (txN ⟨x0, x1, x2, x3⟩).length k2 (txN ⟨x0, x1, x2, x3⟩)) := hB2
            replace HB1 : Hid (Bs y0 a1 (txX M pn k).length k1 (txX M pn k)) := HB1.out.below hb
            replace A := A.kept hb
            replace B := B.trans (hb.mono B.size)
            clear hb o3 hB2 D Bl d0 d1 d2 d3
            go_wp2_with fail
            have eA := Arr.new y0 [.slice a1 (txX M pn k).length k1, .slice a2 (txN ⟨x0, x1, x2, x3⟩).length k2] 27
            have b4 : Below y0.heap.size y0 (y0.alloc (.cells #[.slice a1 (txX M pn k).length k1, .slice a2 (txN ⟨x0, x1, x2, x3⟩).length k2] 27)) := (Below.refl _ _).alloc (Nat.le_refl _) _
            have lx := HLn2.out
            have ly := HLt.out
            refine Calls.mono (concat2 y0.heap.size a1 a2 (txX M pn k).length k1 (txN ⟨x0, x1, x2, x3⟩).length k2 (txX M pn k) (txN ⟨x0, x1, x2, x3⟩) _ eA.lt (eA.cell 0) (eA.cell 1) (HB1.out.below b4) (HB2.out.below b4) (by omega) (by omega)) ?_
            rintro e y ⟨v4, rfl, o4, hb⟩
            have HN : Hid (ownM y w1.heap.size v4 (txX M pn (k + 1)).length (txX M pn (k + 1))) := by
              unfold Hid
              rw [HS.out, List.length_append]
              exact .of (own_base o4 (Nat.le_trans B.size b4.size))
            replace B := (B.trans (b4.mono B.size)).trans (hb.mono (Nat.le_trans B.size b4.size))
            clear hb o4 b4 eA lx ly
            clear HS HV HLn2 A HLt HB1 HB2
            go_wp2
            go_roundw
            case rel => exact ⟨k + 1, by omega, by go_num, HN, B⟩
            case measure => simp [intOf]; omega
          · have hkn : nn = k := by omega
            subst hkn
            rw [HLy.out] at HO
            have c0 := A.cell 0
            have c1 := A.cell 1
            have c2 := A.cell 2
            have c3 := A.cell 3
            have c4 := A.cell 4
            simp at c0 c1 c2 c3 c4
            go_wp2
            go_ret
            exact ⟨_, rfl, HO.out.lower (Nat.le_of_lt hwz), Bl⟩
end Go.Proofs.YtgfjbaigmkdbcaaDoor

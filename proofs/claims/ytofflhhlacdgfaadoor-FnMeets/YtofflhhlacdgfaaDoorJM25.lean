/-
  What is proved here: what the program's Lacks and Meets answer; what the program's Meets answers; contracts of the specification's and of the program's Hex, for every slice of at most 2^20 bytes; the contract of the laws' same: two slices of bytes are held against each other; the laws' hashes returns true, and writes into nothing that was there; where the program's three tables hold what its text lays into them. And that bytes added in parts come to the sum of all.
-/
import Derived.Test.YtofflhhlacdgfaaDoorJM21
import Derived.Test.YtofflhhlacdgfaaDoorJM22
import Derived.Test.YtofflhhlacdgfaaDoorJM24
import Derived.Test.YtofflhhlacdgfaaDoorJM1
import Derived.Laws.BitsLemmas
import Derived.Deep.RegionHeld3
import Derived.Deep.AppendLies
import Derived.Laws.BytesArg
import Derived.Test.YtofflhhlacdgfaaDoorJM16
import Derived.Lib.SmallJoins
namespace Go.Proofs.YtofflhhlacdgfaaDoor
open Go.RowKit
set_option maxRecDepth 100000
set_option maxHeartbeats 8000000
set_option linter.unusedVariables false

theorem filt_take (ns : List NeedM) (f : NeedM → Bool) (k : Nat) (h : k < ns.length) : (ns.take (k + 1)).filter f = (ns.take k).filter f ++ (if f (ns.getD k nz) = true then [ns.getD k nz] else []) := by
  rw [ns_snoc ns k h, List.filter_append]
  cases e : f (ns.getD k nz) with
  | true => simp only [List.filter_cons, e, if_true, List.filter_nil]
  | false => simp only [List.filter_cons, e, Bool.false_eq_true, if_false, List.filter_nil]
theorem lkI_len (ps : List PartM) (ns : List NeedM) : ∀ j, (lkI ps ns j).length ≤ j * ns.length
  | 0 => by simp [lkI]
  | j + 1 => by
    by_cases h : j < ps.length
    · rw [lkI_snoc ps ns j h, List.length_append, Nat.succ_mul]
      have h1 := lkI_len ps ns j
      have h2 : (fsP ps ns (ps.getD j pz)).length ≤ (grp ns (ps.getD j pz).k).length := List.length_filter_le _ _
      have h3 : (grp ns (ps.getD j pz).k).length ≤ ns.length := List.length_filter_le _ _
      omega
    · have e : lkI ps ns (j + 1) = lkI ps ns j := by
        unfold lkI
        rw [List.take_of_length_le (by omega), List.take_of_length_le (by omega)]
      rw [e, Nat.succ_mul]
      have := lkI_len ps ns j
      omega
theorem own_above {w w' : World} {b e s n lo : Nat} {v : Value} {l : List Value} (h : w.ownsRow b e s v n l) {G : Option Nat} (hg : w.grownBy w' G) (hG : ∀ k, G = some k → lo ≤ k) (hv : ∀ k, v.ownBlock = some k → k < lo) : w'.ownsRow b e s v n l :=
  ownN_gr h hg (fun k hk e => by have := hG k e; have := hv k hk; omega)
theorem below_above {B : Nat} {w0 w w' : World} (h : Below B w0 w) {G : Option Nat} (hg : w.grownBy w' G) (hB : B ≤ w.heap.size) (hG : ∀ k, G = some k → B ≤ k) : Below B w0 w' := h.grown hg hB hG
theorem implLacks (pa : Option Addr) (pn pc : Nat) (na : Option Addr) (nn nc : Nat) (B : BunM) (w : World) (hp : Ps w pa pn pc B.ps) (hn : Ns w na nn nc B.ns) :
    Calls Tryd.prog 20 #[bunV B.d B.n B.f pa pn pc na nn nc] w fun e w' => ∃ v, e = .returned v ∧ w'.ownsRow w.heap.size 41 4 v (lkB B).length (FL ((lkB B).map nrc)) ∧ Below w.heap.size w w' := by
  obtain ⟨V, hV⟩ : ∃ V, V = w.alloc (.cells #[.int .i64 B.d, .int .i64 B.n, .int .i64 B.f, .slice pa pn pc, .slice na nn nc] 26) := ⟨_, rfl⟩
  have A : Arr V w.heap.size 26 [.int .i64 B.d, .int .i64 B.n, .int .i64 B.f, .slice pa pn pc, .slice na nn nc] := by rw [hV]; exact Arr.new _ _ _
  have Bl : Below w.heap.size w V := by rw [hV]; exact (Below.refl _ _).alloc (Nat.le_refl _) _
  have lp := hp.2.1
  have ln := hn.2.1
  have HB : Hid (∀ Z, Below w.heap.size w Z → Calls Tryd.prog 13 #[bunV B.d B.n B.f pa pn pc na nn nc] Z fun e w' => e = .returned (.bool (bOk B)) ∧ Below Z.heap.size Z w') := by
    unfold Hid; intro Z hZ; exact implBundleOk pa pn pc na nn nc B Z (hp.below hZ) (hn.below hZ)
  have HLy : Hid (bOk B = true → lkI B.ps B.ns pn = lkB B) := fun h => by
    rw [← lp, lk_eq ((bOk_iff B).1 h)]
    exact (if_pos h).symm
  have HLn : Hid (bOk B = false → lkB B = []) := fun h => if_neg (by rw [h]; decide)
  have HL : Hid (bOk B = true → (pn ≤ 4 ∧ nn ≤ 8) ∧ (∀ i, i < nn → 0 ≤ (B.ns.getD i nz).o ∧ (B.ns.getD i nz).o < 4) ∧ (∀ i, i < pn → 0 ≤ (B.ps.getD i pz).k ∧ (B.ps.getD i pz).k < 4)) := by
    unfold Hid; intro h
    have h0 := (bOk_iff B).1 h
    refine ⟨by have := h0.1; omega, fun i hi => ?_, fun i hi => ?_⟩
    · have := (h0.2.2 i (by omega)).1
      exact this.2.1
    · have := (h0.2.1 i (by omega)).1
      exact this.1
  have HPs : Hid (Ps w pa pn pc B.ps) := hp
  have HNs : Hid (Ns w na nn nc B.ns) := hn
  generalize bOk B = q at HB HLy HLn HL
  generalize lkB B = LL at HLy HLn ⊢
  obtain ⟨d, n, f, ps, ns⟩ := B
  simp only [] at *
  clear hp hn
  have HNl : Hid (ns.length = nn) := ln
  have HPl : Hid (ps.length = pn) := lp
  clear ln lp
  have c0 := A.cell 0
  have c1 := A.cell 1
  have c2 := A.cell 2
  have c3 := A.cell 3
  have c4 := A.cell 4
  simp at c0 c1 c2 c3 c4
  go_enter Tryd.func20, Tryd.ntmps20
  go_upto_region 1 with fail
  rw [← hV]
  clear hV
  go_wp2_with fail
  refine (HB.out _ Bl).mono ?_
  rintro e w1 ⟨rfl, b1⟩
  replace A := A.kept b1
  replace Bl := Bl.trans (b1.mono Bl.size)
  clear c0 c1 c2 c3 c4 b1 HB
  cases q with
  | false =>
    go_wp2
    go_ret
    exact ⟨_, rfl, by rw [HLn.out (by first | rfl | trivial)]; exact World.ownsRow_nil _ _ _ _, Bl⟩
  | true =>
    replace HLy : Hid (lkI ps ns pn = LL) := HLy.out (by first | rfl | trivial)
    have hLb := HL.out (by first | rfl | trivial)
    have hpn := hLb.1
    have HNo : Hid (∀ i, i < nn → 0 ≤ (ns.getD i nz).o ∧ (ns.getD i nz).o < 4) := hLb.2.1
    have HPo : Hid (∀ i, i < pn → 0 ≤ (ps.getD i pz).k ∧ (ps.getD i pz).k < 4) := hLb.2.2
    clear HLn HL hLb
    have c4 := A.cell 4
    simp at c4
    go_wp2_with fail
    refine (implByWho na nn nc ns w1 (HNs.out.below Bl) (by omega) HNo.out).mono ?_
    rintro e w2 ⟨rfl, ⟨vs, DD, hG⟩, b2⟩
    have HG : Hid (Gp w2 (w1.heap.size + 1) w1.heap.size nn (fun q => (grp ns q).map nrc) vs DD) := hG
    replace A := A.kept b2
    have lA := A.lt
    replace Bl := Bl.trans (b2.mono Bl.size)
    obtain ⟨m, hm⟩ : ∃ m, m = w1.heap.size := ⟨_, rfl⟩
    have HML : Hid (m < w2.heap.size) := by unfold Hid; rw [hm]; exact hG.mp.lt
    rw [← hm] at HG ⊢
    clear c4 b2 hG hm
    have c3 := A.cell 3
    simp at c3
    have HP2 : Hid (Ps w2 pa pn pc ps) := HPs.out.below Bl
    have HO0 : Hid (w2.ownsRow w2.heap.size 41 4 (.slice none 0 0) (lkI ps ns 0).length (FL ((lkI ps ns 0).map nrc))) := World.ownsRow_nil _ _ _ _
    have hwz := Bl.size
    have HB2 : Hid (Below w.heap.size w w2) := Bl
    have HA : Hid (Arr w2 w.heap.size 26 [.int .i64 d, .int .i64 n, .int .i64 f, .slice pa pn pc, .slice na nn nc]) := A
    go_wp2
    clear c3 A Bl
    go_loopw [4, 18] (fun v i wr => ∃ j : Nat, j ≤ pn ∧ i = .int .i64 j ∧ Hid (wr.ownsRow w2.heap.size 41 4 v (lkI ps ns j).length (FL ((lkI ps ns j).map nrc))) ∧ Below w2.heap.size w2 wr) (fun _ i _ => pn - (intOf i).toNat)
    case atStart => exact ⟨0, by omega, rfl, HO0, Below.refl _ _⟩
    case round =>
      clear HO0
      obtain ⟨j, hj, rfl, HO, B⟩ := hrel
      by_cases hlt : (j : Int) < (pn : Int)
      · obtain ⟨b, o, rfl, hbs, hcell⟩ := (HP2.out.below B).opened (by omega)
        obtain ⟨ha, hc, P⟩ := hcell j (by omega)
        have hpk := HPo.out j (by omega)
        have HJ : Hid (lkI ps ns (j + 1) = lkI ps ns j ++ fsP ps ns (ps.getD j pz)) := lkI_snoc ps ns j (by have := HPl.out; omega)
        have HJl : Hid ((lkI ps ns j).length ≤ 32) := by
          unfold Hid
          have h1 := lkI_len ps ns j
          have h2 : j * ns.length ≤ 4 * 8 := Nat.mul_le_mul (by omega) (by have := HNl.out; omega)
          omega
        obtain ⟨x, hx⟩ : ∃ x, x = ps.getD j pz := ⟨_, rfl⟩
        rw [← hx] at P hpk HJ
        obtain ⟨pk, pv, pS, ph⟩ := x
        obtain ⟨q1, q2, q3, q4, _⟩ := P
        simp only [] at q1 q2 q3 q4 hpk
        clear hx hcell
        have hG := HG.out
        have hrow := hG.row pk
        have hrl : ∀ k, (vs pk).ownBlock = some k → k < w2.heap.size := fun k hk => (World.ownsRow.lt hrow k hk).2
        obtain ⟨ga, gc, eg, hgc, hRs⟩ := Rs.own hrow
        rw [List.length_map] at eg hRs
        obtain ⟨gl, hgl⟩ : ∃ gl, gl = (grp ns pk).length := ⟨_, rfl⟩
        rw [← hgl] at eg hRs
        have HGN : Hid (Ns w2 ga gl gc (grp ns pk)) := hRs.ns
        have hgl8 : gl ≤ 8 := by
          have h1 : (grp ns pk).length ≤ ns.length := List.length_filter_le _ _
          have := HNl.out
          omega
        have HGL : Hid (gl = (grp ns pk).length) := hgl
        clear hrow hrl hRs hgl hgc
        go_upto_region 8 with fail
        obtain ⟨Z, hZ⟩ : ∃ Z, Z = wr.alloc (.cells #[.int .i64 pk, .int .i64 pv, .int .i64 pS, .slice ha ph.length hc] 45) := ⟨_, rfl⟩
        have bV : Below wr.heap.size wr Z := by rw [hZ]; exact (Below.refl _ _).alloc (Nat.le_refl _) _
        have D : Arr Z wr.heap.size 45 [.int .i64 pk, .int .i64 pv, .int .i64 pS, .slice ha ph.length hc] := by rw [hZ]; exact Arr.new _ _ _
        rw [← hZ]
        have BZ : Below w2.heap.size w2 Z := B.trans (bV.mono B.size)
        have HOZ : Hid (Z.ownsRow w2.heap.size 41 4 u4 (lkI ps ns j).length (FL ((lkI ps ns j).map nrc))) := own_below HO.out bV
        clear hZ bV q1 q2 q3 q4 hbs HO B
        have d0 := D.cell 0
        simp at d0
        have hlk : (Instr.lookup 87 (.map (some m)) (.int .i64 pk) false).run Tryd.prog Z = .ok (.slice ga gl gc) Z := by
          rw [← eg]
          exact look_of (hG.mp.kept (gr_of BZ none) (fun e => by cases e)) hG.at_ pk (by omega) (by omega)
        have HI0 : Hid (Z.ownsRow w2.heap.size 41 4 u4 (lkI ps ns j ++ ((grp ns pk).take 0).filter fun q => !metA ps q).length (FL ((lkI ps ns j ++ ((grp ns pk).take 0).filter fun q => !metA ps q).map nrc))) := by
          unfold Hid
          simpa using HOZ.out
        clear hG eg HOZ
        go_wp2
        clear hlk d0 D
        go_loopw [4, 27] (fun v i wr => ∃ k : Nat, k ≤ gl ∧ i = .int .i64 k ∧ Hid (wr.ownsRow w2.heap.size 41 4 v (lkI ps ns j ++ ((grp ns pk).take k).filter fun q => !metA ps q).length (FL ((lkI ps ns j ++ ((grp ns pk).take k).filter fun q => !metA ps q).map nrc))) ∧ Below w2.heap.size w2 wr) (fun _ i _ => gl - (intOf i).toNat)
        case atStart => exact ⟨0, by omega, rfl, HI0, BZ⟩
        case round =>
          clear HI0 BZ
          obtain ⟨k, hk, rfl, HO, B⟩ := hrel
          by_cases hlk : (k : Int) < (gl : Int)
          · obtain ⟨gb, go, rfl, hgb, hgcell⟩ : ∃ gb go, ga = some ⟨gb, go, none⟩ ∧ gb < wr.heap.size ∧ ∀ i, i < gl → NeedAt wr gb (go + i * 4) ((grp ns pk).getD i nz) := by
              rcases (HGN.out.below B).2.2.2 with hq | hq
              · omega
              · exact hq
            have N := hgcell k (by omega)
            have HS : Hid (((grp ns pk).take (k + 1)).filter (fun q => !metA ps q) = ((grp ns pk).take k).filter (fun q => !metA ps q) ++ (if (!metA ps ((grp ns pk).getD k nz)) = true then [(grp ns pk).getD k nz] else [])) := filt_take _ _ k (by rw [← HGL.out]; omega)
            obtain ⟨y, hy⟩ : ∃ y, y = (grp ns pk).getD k nz := ⟨_, rfl⟩
            rw [← hy] at N HS
            obtain ⟨no, nf, nt, nk⟩ := y
            obtain ⟨r1, r2, r3, r4⟩ := N
            simp only [] at r1 r2 r3 r4
            clear hy hgcell
            go_upto_region 11 with fail
            obtain ⟨Y, hY⟩ : ∃ Y, Y = wr.alloc (.cells #[.int .i64 no, .int .i64 nf, .int .i64 nt, .int .i64 nk] 41) := ⟨_, rfl⟩
            have bY : Below wr.heap.size wr Y := by rw [hY]; exact (Below.refl _ _).alloc (Nat.le_refl _) _
            have E : Arr Y wr.heap.size 41 [.int .i64 no, .int .i64 nf, .int .i64 nt, .int .i64 nk] := by rw [hY]; exact Arr.new _ _ _
            rw [← hY]
            obtain ⟨g, hg⟩ : ∃ g, g = wr.heap.size := ⟨_, rfl⟩
            rw [← hg] at E ⊢
            have hgz : w2.heap.size ≤ g := by rw [hg]; exact B.size
            have BY : Below w2.heap.size w2 Y := B.trans (bY.mono B.size)
            have HOY : Hid (Y.ownsRow w2.heap.size 41 4 u4 (lkI ps ns j ++ ((grp ns pk).take k).filter fun q => !metA ps q).length (FL ((lkI ps ns j ++ ((grp ns pk).take k).filter fun q => !metA ps q).map nrc))) := own_below HO.out bY
            clear hY bY r1 r2 r3 r4 hgb HO B hg
            have A := HA.out.below BY lA
            have c3 := A.cell 3
            have e0 := E.cell 0
            have e1 := E.cell 1
            have e2 := E.cell 2
            have e3 := E.cell 3
            simp at c3 e0 e1 e2 e3
            clear A
            go_wp2_with fail
            refine (containsMet (some ⟨b, o, none⟩) pn pc ps ⟨no, nf, nt, nk⟩ _ (HP2.out.below BY) (by omega)).mono ?_
            rintro e w3 ⟨r, rfl, hr, b3⟩
            have HR : Hid (r = metA ps ⟨no, nf, nt, nk⟩) := by
              unfold Hid
              rw [Bool.eq_iff_iff, metA_iff, HPl.out]
              exact hr
            replace E := E.kept b3
            have B3 := BY.trans (b3.mono BY.size)
            have HO3 : Hid (w3.ownsRow w2.heap.size 41 4 u4 (lkI ps ns j ++ ((grp ns pk).take k).filter fun q => !metA ps q).length (FL ((lkI ps ns j ++ ((grp ns pk).take k).filter fun q => !metA ps q).map nrc))) := own_below HOY.out b3
            clear hr b3 c3 e0 e1 e2 e3 BY HOY
            rw [← HR.out] at HS
            cases r with
            | true =>
              have HN : Hid (w3.ownsRow w2.heap.size 41 4 u4 (lkI ps ns j ++ ((grp ns pk).take (k + 1)).filter fun q => !metA ps q).length (FL ((lkI ps ns j ++ ((grp ns pk).take (k + 1)).filter fun q => !metA ps q).map nrc))) := by
                unfold Hid
                rw [HS.out]
                simpa using HO3.out
              clear HO3 HS HR E
              go_wp2
              go_roundw
              case rel => exact ⟨k + 1, by omega, by go_num, HN, B3⟩
              case measure => simp [intOf]; omega
            | false =>
              have HN2 : Hid (((grp ns pk).take (k + 1)).filter (fun q => !metA ps q) = ((grp ns pk).take k).filter (fun q => !metA ps q) ++ [⟨no, nf, nt, nk⟩]) := by
                unfold Hid
                rw [HS.out]
                rfl
              have HXl : Hid ((lkI ps ns j ++ ((grp ns pk).take k).filter fun q => !metA ps q).length ≤ 1048576) := by
                unfold Hid
                rw [List.length_append]
                have h1 : (((grp ns pk).take k).filter fun q => !metA ps q).length ≤ ((grp ns pk).take k).length := List.length_filter_le _ _
                have h2 : ((grp ns pk).take k).length ≤ k := by simp; omega
                have := HJl.out
                omega
              have e0 := E.cell 0
              have e1 := E.cell 1
              have e2 := E.cell 2
              have e3 := E.cell 3
              simp at e0 e1 e2 e3
              have lE := E.lt
              clear HR HS
              go_wp2_with (at_builtin; refine wpl_app_nd rfl _ _ rfl rfl w2.heap.size u4 _ _ rfl w3.heap.size 1 ⟨no, nf, nt, nk⟩ rfl (World.ownsRow.alloc HO3.out _) (Arr.new w3 [.int .i64 no, .int .i64 nf, .int .i64 nt, .int .i64 nk] 41) HXl.out (Nat.le_trans B3.size (by simp)) ?_)
              intro v4 w4 o4 g4
              have HN : Hid (w4.ownsRow w2.heap.size 41 4 v4 (lkI ps ns j ++ ((grp ns pk).take (k + 1)).filter fun q => !metA ps q).length (FL ((lkI ps ns j ++ ((grp ns pk).take (k + 1)).filter fun q => !metA ps q).map nrc))) := by
                unfold Hid
                rw [HN2.out]
                simpa [List.length_append, Nat.add_assoc] using o4
              have hlt4 : ∀ i, u4.ownBlock = some i → w2.heap.size ≤ i := fun i hi => (World.ownsRow.lt HO3.out i hi).1
              have B4 : Below w2.heap.size w2 w4 := (B3.alloc B3.size _).grown g4 (Nat.le_trans B3.size (by simp)) hlt4
              clear o4 g4 hlt4 HO3 B3 e0 e1 e2 e3 lE E HN2 HXl
              go_wp2
              go_roundw
              case rel => exact ⟨k + 1, by omega, by go_num, HN, B4⟩
              case measure => simp [intOf]; omega
          · have hkn : k = gl := by omega
            subst hkn
            have HE : Hid (lkI ps ns (j + 1) = lkI ps ns j ++ ((grp ns pk).take k).filter fun q => !metA ps q) := by
              unfold Hid
              rw [HJ.out, List.take_of_length_le (by rw [← HGL.out]; exact Nat.le_refl _)]
              rfl
            have HN : Hid (wr.ownsRow w2.heap.size 41 4 u4 (lkI ps ns (j + 1)).length (FL ((lkI ps ns (j + 1)).map nrc))) := by
              unfold Hid
              rw [HE.out]
              exact HO.out
            clear HE HO HJ
            go_wp2
            go_roundw
            case rel => exact ⟨j + 1, by omega, by go_num, HN, B⟩
            case measure => simp [intOf]; omega
      · have hjn : j = pn := by omega
        subst hjn
        rw [HLy.out] at HO
        go_wp2
        go_ret
        exact ⟨_, rfl, own_base HO.out hwz, HB2.out.trans (B.mono hwz)⟩
end Go.Proofs.YtofflhhlacdgfaaDoor
namespace Go.Proofs.YtofflhhlacdgfaaDoor
open Go.RowKit
set_option maxRecDepth 100000
set_option maxHeartbeats 8000000
set_option linter.unusedVariables false

theorem lk_nil {B : BunM} (h : bOk B = true) : (lkB B).length = 0 ↔ mts B.ps B.ns = true := by
  unfold lkB lkN mts
  rw [if_pos h, List.length_eq_zero_iff, List.filter_eq_nil_iff, decide_eq_true_eq]
  constructor
  · intro hh i hi
    have := hh (B.ns.getD i nz) (by rw [List.getD_eq_getElem?_getD, List.getElem?_eq_getElem hi]; exact List.getElem_mem hi)
    cases hd : decide (metN B.ps (B.ns.getD i nz)) with
    | true => exact of_decide_eq_true hd
    | false => rw [hd] at this; exact absurd rfl this
  · intro hh q hq
    obtain ⟨i, hi, e⟩ := List.mem_iff_getElem.1 hq
    have := hh i hi
    rw [List.getD_eq_getElem?_getD, List.getElem?_eq_getElem hi] at this
    simp only [Option.getD_some, e] at this
    simp [this]
theorem implMeets (pa : Option Addr) (pn pc : Nat) (na : Option Addr) (nn nc : Nat) (B : BunM) (w : World) (hp : Ps w pa pn pc B.ps) (hn : Ns w na nn nc B.ns) :
    Calls Tryd.prog 21 #[bunV B.d B.n B.f pa pn pc na nn nc] w fun e w' => e = .returned (.bool (mtB B)) ∧ Below w.heap.size w w' := by
  obtain ⟨V, hV⟩ : ∃ V, V = w.alloc (.cells #[.int .i64 B.d, .int .i64 B.n, .int .i64 B.f, .slice pa pn pc, .slice na nn nc] 26) := ⟨_, rfl⟩
  have A : Arr V w.heap.size 26 [.int .i64 B.d, .int .i64 B.n, .int .i64 B.f, .slice pa pn pc, .slice na nn nc] := by rw [hV]; exact Arr.new _ _ _
  have Bl : Below w.heap.size w V := by rw [hV]; exact (Below.refl _ _).alloc (Nat.le_refl _) _
  have HB : Hid (∀ Z, Below w.heap.size w Z → Calls Tryd.prog 13 #[bunV B.d B.n B.f pa pn pc na nn nc] Z fun e w' => e = .returned (.bool (bOk B)) ∧ Below Z.heap.size Z w') := by
    unfold Hid; intro Z hZ; exact implBundleOk pa pn pc na nn nc B Z (hp.below hZ) (hn.below hZ)
  have HK : Hid (∀ Z, Below w.heap.size w Z → Calls Tryd.prog 20 #[bunV B.d B.n B.f pa pn pc na nn nc] Z fun e w' => ∃ v, e = .returned v ∧ w'.ownsRow Z.heap.size 41 4 v (lkB B).length (FL ((lkB B).map nrc)) ∧ Below Z.heap.size Z w') := by
    unfold Hid; intro Z hZ; exact implLacks pa pn pc na nn nc B Z (hp.below hZ) (hn.below hZ)
  have HMn : Hid (bOk B = false → mtB B = false) := fun h => by unfold mtB; rw [h]; rfl
  have HMy : Hid (bOk B = true → decide ((lkB B).length = 0) = mtB B) := fun h => by
    unfold mtB
    rw [h, Bool.true_and, Bool.eq_iff_iff, decide_eq_true_eq]
    exact lk_nil h
  generalize mtB B = R at HMn HMy ⊢
  generalize bOk B = q at HB HMn HMy
  generalize lkB B = L at HK HMy
  obtain ⟨d, n, f, ps, ns⟩ := B
  simp only [] at *
  clear hp hn
  have c0 := A.cell 0
  have c1 := A.cell 1
  have c2 := A.cell 2
  have c3 := A.cell 3
  have c4 := A.cell 4
  simp at c0 c1 c2 c3 c4
  go_enter Tryd.func21, Tryd.ntmps21
  go_upto_region 1 with fail
  rw [← hV]
  clear hV
  go_wp2_with fail
  refine (HB.out _ Bl).mono ?_
  rintro e w1 ⟨rfl, b1⟩
  replace A := A.kept b1
  replace Bl := Bl.trans (b1.mono Bl.size)
  clear c0 c1 c2 c3 c4 b1 HB
  have c0 := A.cell 0
  have c1 := A.cell 1
  have c2 := A.cell 2
  have c3 := A.cell 3
  have c4 := A.cell 4
  simp at c0 c1 c2 c3 c4
  cases q with
  | false =>
    go_wp2
    go_ret
    exact ⟨by rw [HMn.out (by first | rfl | trivial)]; rfl, Bl⟩
  | true =>
    replace HMy := HMy.out (by first | rfl | trivial)
    have HM : Hid _ := HMy
    clear HMn HMy
    go_wp2_with fail
    refine (HK.out _ Bl).mono ?_
    rintro e w2 ⟨v, rfl, o, b2⟩
    obtain ⟨va, vc, rfl, _, _⟩ := Rs.own o
    have hE : ((L.length : Int) == 0) = decide (L.length = 0) := by
      by_cases h : L.length = 0
      · simp [h]
      · rw [decide_eq_false h]; simp; exact fun e => h (by rw [e]; rfl)
    have Bl2 := Bl.trans (b2.mono Bl.size)
    clear c0 c1 c2 c3 c4 b2 o HK A
    go_wp2
    go_ret
    exact ⟨by rw [← HM.out, show decide (L.length = 0) = decide (L = []) by simp [List.length_eq_zero_iff]]; rfl, Bl2⟩
end Go.Proofs.YtofflhhlacdgfaaDoor
namespace Go.Proofs.YtofflhhlacdgfaaDoor
set_option maxRecDepth 100000
open Go.RowKit

theorem conv_bs {w : World} {a : Option Addr} {n c : Nat} {xs : List Int} (h : Bs w a n c xs) : (convert 22 9 (.slice a n c)).run Tryd.prog w = .ok (.string (strOfNums xs)) w := by
  obtain ⟨_, hl, hc, _, h⟩ := h
  rcases h with h | ⟨b, o, rfl, _, hcell⟩
  · subst h
    have hx : xs = [] := List.eq_nil_of_length_eq_zero hl
    subst hx
    rw [run_convert_bytes_string w 22 9 5 _ 0 c Tryd.underlying22 Tryd.underlying5 Tryd.underlying9]
    cases a with
    | none => simp [Conv.bytesToString]; rfl
    | some ad => simp [Conv.bytesToString, loadCells]; rfl
  · exact run_convert_bytes_arg w 22 5 Tryd.underlying22 Tryd.underlying5 b o n c xs hl hcell 9 Tryd.underlying9

set_option maxHeartbeats 400000 in
theorem sameB (a a' : Option Addr) (n c n' c' : Nat) (xs ys : List Int) (w : World) (h : Bs w a n c xs) (h' : Bs w a' n' c' ys) :
    Calls Tryd.prog 18 #[.slice a n c, .slice a' n' c'] w fun e w' => e = .returned (.bool ((strOfNums xs).toList == (strOfNums ys).toList)) ∧ w' = w := by
  have g1 := conv_bs h
  have g2 := conv_bs h'
  clear h h'
  go_enter Tryd.func18, Tryd.ntmps18
  go_wp2
  go_ret
  exact ⟨rfl, rfl⟩

theorem sameT (a a' : Option Addr) (n c n' c' : Nat) (xs ys : List Int) (w : World) (h : Bs w a n c xs) (h' : Bs w a' n' c' ys) (e : xs = ys) :
    Calls Tryd.prog 18 #[.slice a n c, .slice a' n' c'] w fun e w' => e = .returned (.bool true) ∧ w' = w := by
  refine (sameB a a' n c n' c' xs ys w h h').mono ?_
  rintro e' w' ⟨rfl, hw⟩
  subst e
  exact ⟨by simp, hw⟩

end Go.Proofs.YtofflhhlacdgfaaDoor
namespace Go.Proofs.YtofflhhlacdgfaaDoor
set_option maxRecDepth 100000
open Go.RowKit

/-- New cells that a constant text lays, as a slice of bytes. -/
theorem Bs.lit (w : World) (L : List Int) (fr : Nat × Nat) (h : ∀ u ∈ L, 0 ≤ u ∧ u < 256) : Bs (w.alloc (.cells (U8 L).toArray 5 fr)) (some ⟨w.heap.size, 0, none⟩) L.length L.length L := by
  refine ⟨(fun h => by cases h), rfl, Nat.le_refl _, h, .inr ⟨w.heap.size, 0, rfl, by simp, ?_⟩⟩
  intro j hj
  rw [World.cell?_alloc_mark]
  simp [hj]

def someText : List Int := [115, 111, 109, 101, 32, 116, 101, 120, 116]

set_option maxHeartbeats 1000000 in
theorem hashesT (w : World) (ht : Tabs w) (hf : TabF w) :
    Calls Tryd.prog 22 #[] w fun e w' => e = .returned (.bool true) ∧ Below w.heap.size w w' := by
  have hby : ∀ u ∈ someText, 0 ≤ u ∧ u < 256 := by decide
  have hbs := fun w => Bs.lit w someText (9, 10) hby
  have hcv := fun w => Lib.run_convert_bytes_const (P := Tryd.prog) w 22 5 #[.int .u8 115, .int .u8 111, .int .u8 109, .int .u8 101, .int .u8 32, .int .u8 116, .int .u8 101, .int .u8 120, .int .u8 116] 9 9 Tryd.underlying22 Tryd.underlying5
  simp only [List.size_toArray, List.length_cons, List.length_nil] at hcv
  have hbt := s256_byte someText
  have hln : (s256 someText).length = 32 := by unfold s256; rw [if_pos (by decide)]; exact sumOf_len _
  have HI := fun a n c w h ht hf => implSha256 a n c someText w h ht hf
  have HS := fun a n c w h => specSha256 a n c someText w h
  generalize s256 someText = S at HI HS hbt hln
  rw [hln] at HI HS
  have hx64 : (hexOf S).length = 64 := by
    unfold hexOf
    rw [hln, if_neg (by omega), hexL_len, hln]
  have HI' : Hid _ := HI
  have HS' : Hid _ := HS
  have HBS : Hid _ := hbs
  have HBT : Hid _ := hbt
  have HX : Hid _ := hx64
  clear HI HS hbs hbt hby hx64
  go_enter Tryd.func22, Tryd.ntmps22
  go_wp2_with fail
  have b1 : Below w.heap.size w (w.alloc (.cells (U8 someText).toArray 5 (9, 10))) := (Below.refl _ _).alloc (Nat.le_refl _) _
  refine (HI'.out (some ⟨w.heap.size, 0, none⟩) 9 9 _ (HBS.out w) (ht.below b1) (hf.below b1)).mono ?_
  rintro e w1 ⟨v1, rfl, o1, bb1⟩
  obtain ⟨a1, c1, rfl, _, _⟩ := Bs.own o1 HBT.out
  have B1 := b1.trans (bb1.mono b1.size)
  clear b1 bb1
  go_wp2_with fail
  have b2 : Below w1.heap.size w1 (w1.alloc (.cells (U8 someText).toArray 5 (9, 10))) := (Below.refl _ _).alloc (Nat.le_refl _) _
  refine (HS'.out (some ⟨w1.heap.size, 0, none⟩) 9 9 _ (HBS.out w1)).mono ?_
  rintro e w2 ⟨v2, rfl, o2, bb2⟩
  obtain ⟨a2, c2, rfl, _, hx2⟩ := Bs.own o2 HBT.out
  have b3 := b2.trans (bb2.mono b2.size)
  have B2 := B1.trans (b3.mono B1.size)
  have o1' := own_below o1 b3
  clear b2 bb2 b3 o1 o2 B1
  go_wp2_with fail
  refine (sameT a1 a2 32 c1 32 c2 S S _ (bs_of_own o1' HBT.out) hx2 rfl).mono ?_
  rintro e w3 ⟨rfl, rfl⟩
  go_wp2_with fail
  refine (implHex a1 32 c1 S _ (bs_of_own o1' HBT.out) (by omega)).mono ?_
  rintro e w4 ⟨v4, rfl, o4, b4⟩
  rw [HX.out] at o4
  have B4 := B2.trans (b4.mono B2.size)
  obtain ⟨a4, c4, rfl⟩ : ∃ a c, v4 = .slice a 64 c := by
    rcases (own_shape o4).2 with ⟨h, h0⟩ | ⟨g, cap, h, _⟩
    · omega
    · exact ⟨_, _, h⟩
  clear o1' hx2 B2 o4 b4
  go_wp2
  go_ret
  exact ⟨rfl, B4⟩

theorem fld_app (hs l m : List Int) (k : Nat) (h : 64 * k ≤ l.length) : fld hs (l ++ m) k = fld hs l k := by
  induction k with
  | zero => rfl
  | succ k ih =>
    have e : ((l ++ m).drop (64 * k)).take 64 = (l.drop (64 * k)).take 64 := by
      rw [List.drop_append_of_le_length (by omega), List.take_append_of_le_length (by simp; omega)]
    show blk (fld hs (l ++ m) k) (((l ++ m).drop (64 * k)).take 64) = blk (fld hs l k) ((l.drop (64 * k)).take 64)
    rw [ih (by omega), e]
theorem fld_add (hs l : List Int) (j k : Nat) : fld hs l (j + k) = fld (fld hs l j) (l.drop (64 * j)) k := by
  induction k with
  | zero => rfl
  | succ k ih =>
    show blk (fld hs l (j + k)) ((l.drop (64 * (j + k))).take 64) = blk (fld (fld hs l j) (l.drop (64 * j)) k) (((l.drop (64 * j)).drop (64 * k)).take 64)
    rw [ih, List.drop_drop, show 64 * (j + k) = 64 * j + 64 * k by omega]
theorem rest_app (l m : List Int) : (l ++ m).drop (64 * (l.length / 64)) = restB l ++ m := by
  unfold restB
  rw [List.drop_append_of_le_length (by omega)]
theorem len_app (l m : List Int) : (l ++ m).length / 64 = l.length / 64 + (restB l ++ m).length / 64 := by
  rw [List.length_append, List.length_append, restB_len']
  omega
theorem allB_app (hs l m : List Int) : allB (allB hs l) (restB l ++ m) = allB hs (l ++ m) := by
  unfold allB
  rw [len_app l m, fld_add, fld_app hs l m (l.length / 64) (by omega), rest_app]
theorem restB_app (l m : List Int) : restB (restB l ++ m) = restB (l ++ m) := by
  have e := rest_app l m
  unfold restB at e ⊢
  rw [len_app l m, Nat.mul_add, ← List.drop_drop]
  unfold restB
  rw [e]

/-- Added in parts, the sum of all. -/
theorem parts_end {xs ys : List Int} (ha : xs.length ≤ 299) (hb : ys.length ≤ 299) :
    addOk H0 0 [] xs = true ∧ addOk (addH H0 0 [] xs) (addN H0 0 [] xs) (addT H0 0 [] xs) ys = true ∧
    shaOk (addH (addH H0 0 [] xs) (addN H0 0 [] xs) (addT H0 0 [] xs) ys) (addN (addH H0 0 [] xs) (addN H0 0 [] xs) (addT H0 0 [] xs) ys) (addT (addH H0 0 [] xs) (addN H0 0 [] xs) (addT H0 0 [] xs) ys) = true ∧
    endOf (addH (addH H0 0 [] xs) (addN H0 0 [] xs) (addT H0 0 [] xs) ys) (addN (addH H0 0 [] xs) (addN H0 0 [] xs) (addT H0 0 [] xs) ys) (addT (addH H0 0 [] xs) (addN H0 0 [] xs) (addT H0 0 [] xs) ys) = s256 (xs ++ ys) ∧
    addN (addH H0 0 [] xs) (addN H0 0 [] xs) (addT H0 0 [] xs) ys = ((xs.length + ys.length : Nat) : Int) := by
  obtain ⟨o1, k1, _⟩ := end_of_add (bs := xs) (by omega) H0_ok
  have o12 : addOk H0 0 [] (xs ++ ys) = true := (end_of_add (bs := xs ++ ys) (by simp; omega) H0_ok).1
  obtain ⟨_, k12, e12⟩ := end_of_add (bs := xs ++ ys) (by simp; omega) H0_ok
  have eH : addH H0 0 [] xs = allB H0 xs := by unfold addH; rw [o1]; rfl
  have eN : addN H0 0 [] xs = (xs.length : Int) := by unfold addN; rw [o1]; simp
  have eT : addT H0 0 [] xs = restB xs := by unfold addT; rw [o1]; rfl
  have fH : addH H0 0 [] (xs ++ ys) = allB H0 (xs ++ ys) := by unfold addH; rw [o12]; rfl
  have fN : addN H0 0 [] (xs ++ ys) = ((xs.length + ys.length : Nat) : Int) := by unfold addN; rw [o12]; simp
  have fT : addT H0 0 [] (xs ++ ys) = restB (xs ++ ys) := by unfold addT; rw [o12]; rfl
  rw [eH, eN, eT] at k1 ⊢
  have o2 : addOk (allB H0 xs) (xs.length : Int) (restB xs) ys = true := by unfold addOk; rw [k1]; simp; omega
  have gH : addH (allB H0 xs) (xs.length : Int) (restB xs) ys = addH H0 0 [] (xs ++ ys) := by unfold addH; rw [o2, o12, if_pos rfl, if_pos rfl, allB_app, List.nil_append]
  have gN : addN (allB H0 xs) (xs.length : Int) (restB xs) ys = addN H0 0 [] (xs ++ ys) := by rw [fN]; unfold addN; rw [o2]; simp
  have gT : addT (allB H0 xs) (xs.length : Int) (restB xs) ys = addT H0 0 [] (xs ++ ys) := by unfold addT; rw [o2, o12, if_pos rfl, if_pos rfl, restB_app, List.nil_append]
  rw [gH, gN, gT]
  refine ⟨o1, o2, k12, ?_, fN⟩
  rw [e12]
  unfold s256
  rw [if_pos (by simp; omega)]
end Go.Proofs.YtofflhhlacdgfaaDoor

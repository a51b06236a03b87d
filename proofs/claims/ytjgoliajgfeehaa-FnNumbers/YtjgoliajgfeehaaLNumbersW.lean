/-
  What is proved here: the law on numbers returns true at every code, and writes into nothing that was there.
-/
import Derived.Test.YtjgoliajgfeehaaDrawG
import Derived.Test.YtjgoliajgfeehaaNumM
import Derived.Test.YtjgoliajgfeehaaText2
import Derived.Test.YtjgoliajgfeehaaPrefM
namespace Go.Proofs.Ytjgoliajgfeehaa
open Go.RowKit
open Ma

theorem getT_put (cs ts : List Int) (h : ts.length ≤ 64) : getT (putT cs ts) (cs.length : Int) = (ts, ((putT cs ts).length : Int)) := by
  have hp : putT cs ts = cs ++ numB ts.length ++ ts := by unfold putT; rw [if_neg (by omega)]
  have hg := getN_put cs ts (ts.length : Int) (by omega) (by omega)
  rw [hp, getT_yes (cs ++ numB ts.length ++ ts) (cs.length : Int) (cs.length + (numB ts.length).length) ts.length hg h (by simp; omega)]
  refine Prod.ext ?_ ?_
  · show ((cs ++ numB ts.length ++ ts).drop (cs.length + (numB ts.length).length)).take ts.length = ts
    rw [List.drop_append_of_le_length (by simp)]
    simp
  · show (((cs.length + (numB ts.length).length : Nat) : Int)) + ts.length = _
    simp; omega

theorem putT_byte2 {l r : List Int} (h : ∀ x ∈ l, 0 ≤ x ∧ x < 256) (h' : ∀ x ∈ r, 0 ≤ x ∧ x < 256) : ∀ x ∈ putT l r, 0 ≤ x ∧ x < 256 := by
  unfold putT
  split
  · exact h
  · intro x hx
    rcases List.mem_append.1 hx with k | k
    · rcases List.mem_append.1 k with k | k
      · exact h x k
      · exact numB_byte _ x k
    · exact h' x k

theorem putT_len2 (l r : List Int) : (putT l r).length ≤ l.length + 69 := by
  unfold putT
  have := numB_len (r.length : Int)
  split
  · omega
  · simp; omega

theorem getT_byteL (l : List Int) (P : Int) (h : ∀ x ∈ l, 0 ≤ x ∧ x < 256) : ∀ x ∈ (getT l P).1, 0 ≤ x ∧ x < 256 := by
  unfold getT
  split
  · simp
  · intro x hx
    exact h x (List.mem_of_mem_drop (List.mem_of_mem_take hx))

set_option maxHeartbeats 4000000 in
theorem walk_fnNumbers (w : World) (a : Option Addr) (n c : Nat) (xs : List Int) (h : Bs w a n c xs) (hm : n ≤ 9223372036854775807) :
    Calls Try.prog 3 #[.slice a n c] w fun e w' => e = .returned (.bool true) ∧ Below w.heap.size w w' := by
  go_enter Try.func3, Try.ntmps3
  go_wp2_with fail
  refine (drawPutNum a n c xs _ h hm).mono ?_
  rintro e w1 ⟨vb, b, N, rfl, hb4, RB, hN0, hN1, d1⟩
  obtain ⟨ab, cb, rfl, _, hB⟩ := RB.slice
  have hbb := RB.2
  clear RB
  have hnl := numB_len N
  have hLb : ∀ x ∈ b ++ numB N, 0 ≤ x ∧ x < 256 := by
    intro x hx
    rcases List.mem_append.1 hx with k | k
    · exact hbb x k
    · exact numB_byte _ x k
  have hL7 : ∀ x ∈ b ++ numB N ++ [7], 0 ≤ x ∧ x < 256 := by
    intro x hx
    rcases List.mem_append.1 hx with k | k
    · exact hLb x k
    · simp at k; omega
  have hget : 0 ≤ N → N ≤ 2147483647 → getN (b ++ numB N ++ [7]) (b.length : Int) = (N, ((b.length + (numB N).length : Nat) : Int)) := getN_put b [7] N
  have HG : Hid _ := hget
  have H7 : Hid _ := hL7
  have HLb : Hid _ := hLb
  clear hget hL7 hLb hbb
  have PI := fun w hh => implPut ab b.length cb b N w hh (by omega)
  generalize numB N = D at hnl HG H7 HLb PI
  have PI' : Hid _ := PI
  clear PI
  go_wp2_with fail
  refine (PI'.out _ hB).mono ?_
  rintro e w2 ⟨v2, rfl, o2, b2⟩
  obtain ⟨ax, cx, rfl, _, _⟩ := Bs.own o2 HLb.out
  have hs2 := b2.size
  obtain ⟨M, hM⟩ : ∃ M, M = b.length + D.length := ⟨_, rfl⟩
  rw [← hM] at o2 HG ⊢
  have hM9 : M ≤ 9 := by omega
  have HM : Hid _ := hM
  clear hM PI' HLb
  go_wp2_with (at_builtin; refine wpl_append_bs rfl _ _ rfl w1.heap.size _ M (b ++ D) rfl (some ⟨w2.heap.size, 0, none⟩) 1 1 [7] rfl (o2.alloc _) (Bs.one _ 7 (by omega) (by omega)) ?_ ?_ ?_)
  · omega
  · first | omega | (simp; omega)
  intro v3 w3 h3 g3 _
  have b3 := below_app b2 hs2 o2 g3
  have F4 := d1.trans (b3.mono d1.size)
  have h3' : w3.ownsRow w1.heap.size 5 1 v3 (M + 1) (U8 (b ++ D ++ [7])) := by simpa using h3
  obtain ⟨a3, c3, rfl, _, hB3⟩ := Bs.own h3' H7.out
  clear h3 h3' g3 o2 b2 b3 d1 hB H7
  have GI := fun w hh => implGet a3 (M + 1) c3 (b ++ D ++ [7]) (b.length : Int) w hh (by omega) (by omega)
  generalize getN (b ++ D ++ [7]) (b.length : Int) = r at GI HG
  obtain ⟨r1, r2⟩ := r
  simp only at GI
  have GI' : Hid _ := GI
  clear GI
  go_wp2_with fail
  refine (GI'.out _ hB3).mono ?_
  rintro e w4 ⟨rfl, hw4⟩
  have hw4' := hw4.symm
  subst hw4'
  clear GI' hB3
  by_cases c0 : 0 ≤ N
  · by_cases c1 : N ≤ 2147483647
    · have hh := HG.out c0 c1
      simp only [Prod.mk.injEq] at hh
      obtain ⟨rfl, rfl⟩ := hh
      have z1 : (r1 != r1) = false := by simp
      have z2 : ((M : Int) != (M : Int)) = false := by simp
      clear HG
      go_wp2_with fail
      refine (drawPutText a n c xs _ (h.below F4) hm).mono ?_
      rintro e t1 ⟨vc, cs, vt, ts, rfl, hc3, ht65, RC, RT, dt⟩
      obtain ⟨ac, cc, rfl, _, hBc⟩ := RC.slice
      obtain ⟨at', ct, rfl, _, hBt⟩ := RT.slice
      have F5 := F4.trans (dt.mono F4.size)
      have hTb := putT_byte2 RC.2 RT.2
      have hTl := putT_len2 cs ts
      have hts := RT.2
      have hgt := getT_put cs ts
      clear RC RT dt F4
      have PI := fun w h h' => implPutT ac at' cs.length cc ts.length ct cs ts w h h' (by omega) (by omega)
      generalize putT cs ts = Y at PI hTb hTl hgt
      have PI' : Hid _ := PI
      clear PI
      go_wp2_with fail
      refine (PI'.out _ hBc hBt).mono ?_
      rintro e t2 ⟨vy, rfl, oy, dy⟩
      obtain ⟨ay, cy, rfl, _, hBy⟩ := Bs.own oy hTb
      have F6 := F5.trans (dy.mono F5.size)
      have hBt2 := hBt.below dy
      clear oy dy F5 hBc hBt PI'
      have TI := fun w hh => implGetT ay Y.length cy Y (cs.length : Int) w hh (by omega) (by omega)
      have HGT : Hid _ := hgt
      have hTB : Hid _ := getT_byteL Y (cs.length : Int) hTb
      clear hgt hTb
      generalize getT Y (cs.length : Int) = r at TI HGT hTB
      obtain ⟨U, E⟩ := r
      simp only at TI hTB
      have TI' : Hid _ := TI
      clear TI
      go_wp2_with fail
      refine (TI'.out _ hBy).mono ?_
      rintro e t3 ⟨vu, rfl, ou, du⟩
      obtain ⟨au, cu, rfl, _, hBu⟩ := Bs.own ou hTB.out
      have F := F6.trans (du.mono F6.size)
      have hBt3 := hBt2.below du
      clear ou du F6 hBt2 hBy TI' hTB
      by_cases hle : (ts.length : Int) ≤ 64
      · have hh := HGT.out (by omega)
        simp only [Prod.mk.injEq] at hh
        obtain ⟨rfl, rfl⟩ := hh
        have hyy : ((Y.length : Int) != (Y.length : Int)) = false := by simp
        clear HGT
        go_wp2_with fail
        refine (sameT au at' U.length cu U.length ct U U _ hBu hBt3 rfl).mono ?_
        rintro e t4 ⟨rfl, ht4⟩
        have ht4' := ht4.symm
        subst ht4'
        clear hBu hBt3
        go_wp2_with fail
        refine (drawGetNum a n c xs _ (h.below F) hm).mono ?_
        rintro e u1 ⟨vl, l, P, rfl, hl20, hP, RL, dl⟩
        obtain ⟨al, cl, rfl, adl, hBl⟩ := RL.slice
        have hlb := RL.2
        have G := F.trans (dl.mono F.size)
        clear RL dl F
        have GI := fun w hh => implGet al l.length cl l P w hh (by omega) hP
        have hbk := fun k e he => getN_back l P k e hlb he
        have hbd := getN_bounds l P hlb
        generalize getN l P = r at GI hbk hbd
        obtain ⟨k, st⟩ := r
        simp only at GI
        have hbk' := hbk k st rfl
        have hz : st < 0 ∨ 0 < st := by simp only [Prod.mk.injEq] at hbd; omega
        clear hbd
        have GI' : Hid _ := GI
        clear GI hbk
        go_wp2_with fail
        refine (GI'.out _ hBl).mono ?_
        rintro e u2 ⟨rfl, hu2⟩
        have hu2' := hu2.symm
        subst hu2'
        clear GI'
        by_cases hst : st < 0
        · clear hbk'
          have hd : decide (st < 0) = true := by simp [hst]
          go_wp2
          go_quiet (fail)
          go_wp2
          go_ret
          exact ⟨rfl, G.trans ((bel_drewN u1 _).mono G.size)⟩
        · have hst2 : decide (st < 0) = false := by simp [hst]
          have hbz : 0 < st := by omega
          obtain ⟨p0, p1, k0, k1, s1, heq⟩ := hbk' hbz
          obtain ⟨p, rfl⟩ := Int.eq_ofNat_of_zero_le p0
          obtain ⟨s, rfl⟩ := Int.eq_ofNat_of_zero_le (show 0 ≤ st by omega)
          simp only [Int.toNat_natCast] at heq
          have hln : p + (numB k).length = s := by
            have e := congrArg List.length heq
            simp at e
            omega
          rcases adl with ⟨_, hh, _⟩ | ⟨bl, ol, rfl⟩
          · omega
          have PP := fun w hh => implPut (some ⟨bl, ol, none⟩) p cl (l.take p) k w hh (by omega)
          rw [heq, hln] at PP
          have PP' : Hid _ := PP
          have bD : Below u1.heap.size u1 u1.drew := (Below.refl _ _).drew
          have hBp := (hBl.take p (by omega)).below bD
          have hBs := (hBl.take s (by omega)).below bD
          have HSB : Hid (∀ x ∈ l.take s, 0 ≤ x ∧ x < 256) := fun x hx => hlb x (List.mem_of_mem_take hx)
          have hcl := hBl.2.2.1
          have j1 : (p : Int) ≤ (cl : Int) := by omega
          have j2 : (s : Int) ≤ (cl : Int) := by omega
          have j3 : (0 : Int) ≤ (p : Int) := by omega
          have j4 : (0 : Int) ≤ (s : Int) := by omega
          have GD := G.trans (bD.mono G.size)
          clear PP heq hln hbk' hlb hBl G hz hbz hst p0
          go_wp2_with fail
          go_region_held3 (fun _ => True) (trivial)
            ((first
              | (go_at_call 16; refine (PP'.out _ hBp).mono ?_; rintro e u3 ⟨v3, rfl, o3, d3⟩; obtain ⟨a3', c3', rfl, _, hB3'⟩ := Bs.own o3 HSB.out)
              | (go_at_call 21; refine (sameT _ _ _ _ _ _ (l.take s) (l.take s) _ hB3' (hBs.below d3) rfl).mono ?_; rintro e u4 ⟨rfl, hu4⟩; have hu5 := hu4.symm; subst hu5)))
          have fr := GD.trans (d3.mono GD.size)
          go_wp2
          go_ret
          exact ⟨rfl, fr⟩
      · clear HGT hBu hBt3
        go_wp2_with fail
        refine (drawGetNum a n c xs _ (h.below F) hm).mono ?_
        rintro e u1 ⟨vl, l, P, rfl, hl20, hP, RL, dl⟩
        obtain ⟨al, cl, rfl, adl, hBl⟩ := RL.slice
        have hlb := RL.2
        have G := F.trans (dl.mono F.size)
        clear RL dl F
        have GI := fun w hh => implGet al l.length cl l P w hh (by omega) hP
        have hbk := fun k e he => getN_back l P k e hlb he
        have hbd := getN_bounds l P hlb
        generalize getN l P = r at GI hbk hbd
        obtain ⟨k, st⟩ := r
        simp only at GI
        have hbk' := hbk k st rfl
        have hz : st < 0 ∨ 0 < st := by simp only [Prod.mk.injEq] at hbd; omega
        clear hbd
        have GI' : Hid _ := GI
        clear GI hbk
        go_wp2_with fail
        refine (GI'.out _ hBl).mono ?_
        rintro e u2 ⟨rfl, hu2⟩
        have hu2' := hu2.symm
        subst hu2'
        clear GI'
        by_cases hst : st < 0
        · clear hbk'
          have hd : decide (st < 0) = true := by simp [hst]
          go_wp2
          go_quiet (fail)
          go_wp2
          go_ret
          exact ⟨rfl, G.trans ((bel_drewN u1 _).mono G.size)⟩
        · have hst2 : decide (st < 0) = false := by simp [hst]
          have hbz : 0 < st := by omega
          obtain ⟨p0, p1, k0, k1, s1, heq⟩ := hbk' hbz
          obtain ⟨p, rfl⟩ := Int.eq_ofNat_of_zero_le p0
          obtain ⟨s, rfl⟩ := Int.eq_ofNat_of_zero_le (show 0 ≤ st by omega)
          simp only [Int.toNat_natCast] at heq
          have hln : p + (numB k).length = s := by
            have e := congrArg List.length heq
            simp at e
            omega
          rcases adl with ⟨_, hh, _⟩ | ⟨bl, ol, rfl⟩
          · omega
          have PP := fun w hh => implPut (some ⟨bl, ol, none⟩) p cl (l.take p) k w hh (by omega)
          rw [heq, hln] at PP
          have PP' : Hid _ := PP
          have bD : Below u1.heap.size u1 u1.drew := (Below.refl _ _).drew
          have hBp := (hBl.take p (by omega)).below bD
          have hBs := (hBl.take s (by omega)).below bD
          have HSB : Hid (∀ x ∈ l.take s, 0 ≤ x ∧ x < 256) := fun x hx => hlb x (List.mem_of_mem_take hx)
          have hcl := hBl.2.2.1
          have j1 : (p : Int) ≤ (cl : Int) := by omega
          have j2 : (s : Int) ≤ (cl : Int) := by omega
          have j3 : (0 : Int) ≤ (p : Int) := by omega
          have j4 : (0 : Int) ≤ (s : Int) := by omega
          have GD := G.trans (bD.mono G.size)
          clear PP heq hln hbk' hlb hBl G hz hbz hst p0
          go_wp2_with fail
          go_region_held3 (fun _ => True) (trivial)
            ((first
              | (go_at_call 16; refine (PP'.out _ hBp).mono ?_; rintro e u3 ⟨v3, rfl, o3, d3⟩; obtain ⟨a3', c3', rfl, _, hB3'⟩ := Bs.own o3 HSB.out)
              | (go_at_call 21; refine (sameT _ _ _ _ _ _ (l.take s) (l.take s) _ hB3' (hBs.below d3) rfl).mono ?_; rintro e u4 ⟨rfl, hu4⟩; have hu5 := hu4.symm; subst hu5)))
          have fr := GD.trans (d3.mono GD.size)
          go_wp2
          go_ret
          exact ⟨rfl, fr⟩
    · clear HG
      go_wp2_with fail
      refine (drawPutText a n c xs _ (h.below F4) hm).mono ?_
      rintro e t1 ⟨vc, cs, vt, ts, rfl, hc3, ht65, RC, RT, dt⟩
      obtain ⟨ac, cc, rfl, _, hBc⟩ := RC.slice
      obtain ⟨at', ct, rfl, _, hBt⟩ := RT.slice
      have F5 := F4.trans (dt.mono F4.size)
      have hTb := putT_byte2 RC.2 RT.2
      have hTl := putT_len2 cs ts
      have hts := RT.2
      have hgt := getT_put cs ts
      clear RC RT dt F4
      have PI := fun w h h' => implPutT ac at' cs.length cc ts.length ct cs ts w h h' (by omega) (by omega)
      generalize putT cs ts = Y at PI hTb hTl hgt
      have PI' : Hid _ := PI
      clear PI
      go_wp2_with fail
      refine (PI'.out _ hBc hBt).mono ?_
      rintro e t2 ⟨vy, rfl, oy, dy⟩
      obtain ⟨ay, cy, rfl, _, hBy⟩ := Bs.own oy hTb
      have F6 := F5.trans (dy.mono F5.size)
      have hBt2 := hBt.below dy
      clear oy dy F5 hBc hBt PI'
      have TI := fun w hh => implGetT ay Y.length cy Y (cs.length : Int) w hh (by omega) (by omega)
      have HGT : Hid _ := hgt
      have hTB : Hid _ := getT_byteL Y (cs.length : Int) hTb
      clear hgt hTb
      generalize getT Y (cs.length : Int) = r at TI HGT hTB
      obtain ⟨U, E⟩ := r
      simp only at TI hTB
      have TI' : Hid _ := TI
      clear TI
      go_wp2_with fail
      refine (TI'.out _ hBy).mono ?_
      rintro e t3 ⟨vu, rfl, ou, du⟩
      obtain ⟨au, cu, rfl, _, hBu⟩ := Bs.own ou hTB.out
      have F := F6.trans (du.mono F6.size)
      have hBt3 := hBt2.below du
      clear ou du F6 hBt2 hBy TI' hTB
      by_cases hle : (ts.length : Int) ≤ 64
      · have hh := HGT.out (by omega)
        simp only [Prod.mk.injEq] at hh
        obtain ⟨rfl, rfl⟩ := hh
        have hyy : ((Y.length : Int) != (Y.length : Int)) = false := by simp
        clear HGT
        go_wp2_with fail
        refine (sameT au at' U.length cu U.length ct U U _ hBu hBt3 rfl).mono ?_
        rintro e t4 ⟨rfl, ht4⟩
        have ht4' := ht4.symm
        subst ht4'
        clear hBu hBt3
        go_wp2_with fail
        refine (drawGetNum a n c xs _ (h.below F) hm).mono ?_
        rintro e u1 ⟨vl, l, P, rfl, hl20, hP, RL, dl⟩
        obtain ⟨al, cl, rfl, adl, hBl⟩ := RL.slice
        have hlb := RL.2
        have G := F.trans (dl.mono F.size)
        clear RL dl F
        have GI := fun w hh => implGet al l.length cl l P w hh (by omega) hP
        have hbk := fun k e he => getN_back l P k e hlb he
        have hbd := getN_bounds l P hlb
        generalize getN l P = r at GI hbk hbd
        obtain ⟨k, st⟩ := r
        simp only at GI
        have hbk' := hbk k st rfl
        have hz : st < 0 ∨ 0 < st := by simp only [Prod.mk.injEq] at hbd; omega
        clear hbd
        have GI' : Hid _ := GI
        clear GI hbk
        go_wp2_with fail
        refine (GI'.out _ hBl).mono ?_
        rintro e u2 ⟨rfl, hu2⟩
        have hu2' := hu2.symm
        subst hu2'
        clear GI'
        by_cases hst : st < 0
        · clear hbk'
          have hd : decide (st < 0) = true := by simp [hst]
          go_wp2
          go_quiet (fail)
          go_wp2
          go_ret
          exact ⟨rfl, G.trans ((bel_drewN u1 _).mono G.size)⟩
        · have hst2 : decide (st < 0) = false := by simp [hst]
          have hbz : 0 < st := by omega
          obtain ⟨p0, p1, k0, k1, s1, heq⟩ := hbk' hbz
          obtain ⟨p, rfl⟩ := Int.eq_ofNat_of_zero_le p0
          obtain ⟨s, rfl⟩ := Int.eq_ofNat_of_zero_le (show 0 ≤ st by omega)
          simp only [Int.toNat_natCast] at heq
          have hln : p + (numB k).length = s := by
            have e := congrArg List.length heq
            simp at e
            omega
          rcases adl with ⟨_, hh, _⟩ | ⟨bl, ol, rfl⟩
          · omega
          have PP := fun w hh => implPut (some ⟨bl, ol, none⟩) p cl (l.take p) k w hh (by omega)
          rw [heq, hln] at PP
          have PP' : Hid _ := PP
          have bD : Below u1.heap.size u1 u1.drew := (Below.refl _ _).drew
          have hBp := (hBl.take p (by omega)).below bD
          have hBs := (hBl.take s (by omega)).below bD
          have HSB : Hid (∀ x ∈ l.take s, 0 ≤ x ∧ x < 256) := fun x hx => hlb x (List.mem_of_mem_take hx)
          have hcl := hBl.2.2.1
          have j1 : (p : Int) ≤ (cl : Int) := by omega
          have j2 : (s : Int) ≤ (cl : Int) := by omega
          have j3 : (0 : Int) ≤ (p : Int) := by omega
          have j4 : (0 : Int) ≤ (s : Int) := by omega
          have GD := G.trans (bD.mono G.size)
          clear PP heq hln hbk' hlb hBl G hz hbz hst p0
          go_wp2_with fail
          go_region_held3 (fun _ => True) (trivial)
            ((first
              | (go_at_call 16; refine (PP'.out _ hBp).mono ?_; rintro e u3 ⟨v3, rfl, o3, d3⟩; obtain ⟨a3', c3', rfl, _, hB3'⟩ := Bs.own o3 HSB.out)
              | (go_at_call 21; refine (sameT _ _ _ _ _ _ (l.take s) (l.take s) _ hB3' (hBs.below d3) rfl).mono ?_; rintro e u4 ⟨rfl, hu4⟩; have hu5 := hu4.symm; subst hu5)))
          have fr := GD.trans (d3.mono GD.size)
          go_wp2
          go_ret
          exact ⟨rfl, fr⟩
      · clear HGT hBu hBt3
        go_wp2_with fail
        refine (drawGetNum a n c xs _ (h.below F) hm).mono ?_
        rintro e u1 ⟨vl, l, P, rfl, hl20, hP, RL, dl⟩
        obtain ⟨al, cl, rfl, adl, hBl⟩ := RL.slice
        have hlb := RL.2
        have G := F.trans (dl.mono F.size)
        clear RL dl F
        have GI := fun w hh => implGet al l.length cl l P w hh (by omega) hP
        have hbk := fun k e he => getN_back l P k e hlb he
        have hbd := getN_bounds l P hlb
        generalize getN l P = r at GI hbk hbd
        obtain ⟨k, st⟩ := r
        simp only at GI
        have hbk' := hbk k st rfl
        have hz : st < 0 ∨ 0 < st := by simp only [Prod.mk.injEq] at hbd; omega
        clear hbd
        have GI' : Hid _ := GI
        clear GI hbk
        go_wp2_with fail
        refine (GI'.out _ hBl).mono ?_
        rintro e u2 ⟨rfl, hu2⟩
        have hu2' := hu2.symm
        subst hu2'
        clear GI'
        by_cases hst : st < 0
        · clear hbk'
          have hd : decide (st < 0) = true := by simp [hst]
          go_wp2
          go_quiet (fail)
          go_wp2
          go_ret
          exact ⟨rfl, G.trans ((bel_drewN u1 _).mono G.size)⟩
        · have hst2 : decide (st < 0) = false := by simp [hst]
          have hbz : 0 < st := by omega
          obtain ⟨p0, p1, k0, k1, s1, heq⟩ := hbk' hbz
          obtain ⟨p, rfl⟩ := Int.eq_ofNat_of_zero_le p0
          obtain ⟨s, rfl⟩ := Int.eq_ofNat_of_zero_le (show 0 ≤ st by omega)
          simp only [Int.toNat_natCast] at heq
          have hln : p + (numB k).length = s := by
            have e := congrArg List.length heq
            simp at e
            omega
          rcases adl with ⟨_, hh, _⟩ | ⟨bl, ol, rfl⟩
          · omega
          have PP := fun w hh => implPut (some ⟨bl, ol, none⟩) p cl (l.take p) k w hh (by omega)
          rw [heq, hln] at PP
          have PP' : Hid _ := PP
          have bD : Below u1.heap.size u1 u1.drew := (Below.refl _ _).drew
          have hBp := (hBl.take p (by omega)).below bD
          have hBs := (hBl.take s (by omega)).below bD
          have HSB : Hid (∀ x ∈ l.take s, 0 ≤ x ∧ x < 256) := fun x hx => hlb x (List.mem_of_mem_take hx)
          have hcl := hBl.2.2.1
          have j1 : (p : Int) ≤ (cl : Int) := by omega
          have j2 : (s : Int) ≤ (cl : Int) := by omega
          have j3 : (0 : Int) ≤ (p : Int) := by omega
          have j4 : (0 : Int) ≤ (s : Int) := by omega
          have GD := G.trans (bD.mono G.size)
          clear PP heq hln hbk' hlb hBl G hz hbz hst p0
          go_wp2_with fail
          go_region_held3 (fun _ => True) (trivial)
            ((first
              | (go_at_call 16; refine (PP'.out _ hBp).mono ?_; rintro e u3 ⟨v3, rfl, o3, d3⟩; obtain ⟨a3', c3', rfl, _, hB3'⟩ := Bs.own o3 HSB.out)
              | (go_at_call 21; refine (sameT _ _ _ _ _ _ (l.take s) (l.take s) _ hB3' (hBs.below d3) rfl).mono ?_; rintro e u4 ⟨rfl, hu4⟩; have hu5 := hu4.symm; subst hu5)))
          have fr := GD.trans (d3.mono GD.size)
          go_wp2
          go_ret
          exact ⟨rfl, fr⟩
  · clear HG
    go_wp2_with fail
    refine (drawPutText a n c xs _ (h.below F4) hm).mono ?_
    rintro e t1 ⟨vc, cs, vt, ts, rfl, hc3, ht65, RC, RT, dt⟩
    obtain ⟨ac, cc, rfl, _, hBc⟩ := RC.slice
    obtain ⟨at', ct, rfl, _, hBt⟩ := RT.slice
    have F5 := F4.trans (dt.mono F4.size)
    have hTb := putT_byte2 RC.2 RT.2
    have hTl := putT_len2 cs ts
    have hts := RT.2
    have hgt := getT_put cs ts
    clear RC RT dt F4
    have PI := fun w h h' => implPutT ac at' cs.length cc ts.length ct cs ts w h h' (by omega) (by omega)
    generalize putT cs ts = Y at PI hTb hTl hgt
    have PI' : Hid _ := PI
    clear PI
    go_wp2_with fail
    refine (PI'.out _ hBc hBt).mono ?_
    rintro e t2 ⟨vy, rfl, oy, dy⟩
    obtain ⟨ay, cy, rfl, _, hBy⟩ := Bs.own oy hTb
    have F6 := F5.trans (dy.mono F5.size)
    have hBt2 := hBt.below dy
    clear oy dy F5 hBc hBt PI'
    have TI := fun w hh => implGetT ay Y.length cy Y (cs.length : Int) w hh (by omega) (by omega)
    have HGT : Hid _ := hgt
    have hTB : Hid _ := getT_byteL Y (cs.length : Int) hTb
    clear hgt hTb
    generalize getT Y (cs.length : Int) = r at TI HGT hTB
    obtain ⟨U, E⟩ := r
    simp only at TI hTB
    have TI' : Hid _ := TI
    clear TI
    go_wp2_with fail
    refine (TI'.out _ hBy).mono ?_
    rintro e t3 ⟨vu, rfl, ou, du⟩
    obtain ⟨au, cu, rfl, _, hBu⟩ := Bs.own ou hTB.out
    have F := F6.trans (du.mono F6.size)
    have hBt3 := hBt2.below du
    clear ou du F6 hBt2 hBy TI' hTB
    by_cases hle : (ts.length : Int) ≤ 64
    · have hh := HGT.out (by omega)
      simp only [Prod.mk.injEq] at hh
      obtain ⟨rfl, rfl⟩ := hh
      have hyy : ((Y.length : Int) != (Y.length : Int)) = false := by simp
      clear HGT
      go_wp2_with fail
      refine (sameT au at' U.length cu U.length ct U U _ hBu hBt3 rfl).mono ?_
      rintro e t4 ⟨rfl, ht4⟩
      have ht4' := ht4.symm
      subst ht4'
      clear hBu hBt3
      go_wp2_with fail
      refine (drawGetNum a n c xs _ (h.below F) hm).mono ?_
      rintro e u1 ⟨vl, l, P, rfl, hl20, hP, RL, dl⟩
      obtain ⟨al, cl, rfl, adl, hBl⟩ := RL.slice
      have hlb := RL.2
      have G := F.trans (dl.mono F.size)
      clear RL dl F
      have GI := fun w hh => implGet al l.length cl l P w hh (by omega) hP
      have hbk := fun k e he => getN_back l P k e hlb he
      have hbd := getN_bounds l P hlb
      generalize getN l P = r at GI hbk hbd
      obtain ⟨k, st⟩ := r
      simp only at GI
      have hbk' := hbk k st rfl
      have hz : st < 0 ∨ 0 < st := by simp only [Prod.mk.injEq] at hbd; omega
      clear hbd
      have GI' : Hid _ := GI
      clear GI hbk
      go_wp2_with fail
      refine (GI'.out _ hBl).mono ?_
      rintro e u2 ⟨rfl, hu2⟩
      have hu2' := hu2.symm
      subst hu2'
      clear GI'
      by_cases hst : st < 0
      · clear hbk'
        have hd : decide (st < 0) = true := by simp [hst]
        go_wp2
        go_quiet (fail)
        go_wp2
        go_ret
        exact ⟨rfl, G.trans ((bel_drewN u1 _).mono G.size)⟩
      · have hst2 : decide (st < 0) = false := by simp [hst]
        have hbz : 0 < st := by omega
        obtain ⟨p0, p1, k0, k1, s1, heq⟩ := hbk' hbz
        obtain ⟨p, rfl⟩ := Int.eq_ofNat_of_zero_le p0
        obtain ⟨s, rfl⟩ := Int.eq_ofNat_of_zero_le (show 0 ≤ st by omega)
        simp only [Int.toNat_natCast] at heq
        have hln : p + (numB k).length = s := by
          have e := congrArg List.length heq
          simp at e
          omega
        rcases adl with ⟨_, hh, _⟩ | ⟨bl, ol, rfl⟩
        · omega
        have PP := fun w hh => implPut (some ⟨bl, ol, none⟩) p cl (l.take p) k w hh (by omega)
        rw [heq, hln] at PP
        have PP' : Hid _ := PP
        have bD : Below u1.heap.size u1 u1.drew := (Below.refl _ _).drew
        have hBp := (hBl.take p (by omega)).below bD
        have hBs := (hBl.take s (by omega)).below bD
        have HSB : Hid (∀ x ∈ l.take s, 0 ≤ x ∧ x < 256) := fun x hx => hlb x (List.mem_of_mem_take hx)
        have hcl := hBl.2.2.1
        have j1 : (p : Int) ≤ (cl : Int) := by omega
        have j2 : (s : Int) ≤ (cl : Int) := by omega
        have j3 : (0 : Int) ≤ (p : Int) := by omega
        have j4 : (0 : Int) ≤ (s : Int) := by omega
        have GD := G.trans (bD.mono G.size)
        clear PP heq hln hbk' hlb hBl G hz hbz hst p0
        go_wp2_with fail
        go_region_held3 (fun _ => True) (trivial)
          ((first
            | (go_at_call 16; refine (PP'.out _ hBp).mono ?_; rintro e u3 ⟨v3, rfl, o3, d3⟩; obtain ⟨a3', c3', rfl, _, hB3'⟩ := Bs.own o3 HSB.out)
            | (go_at_call 21; refine (sameT _ _ _ _ _ _ (l.take s) (l.take s) _ hB3' (hBs.below d3) rfl).mono ?_; rintro e u4 ⟨rfl, hu4⟩; have hu5 := hu4.symm; subst hu5)))
        have fr := GD.trans (d3.mono GD.size)
        go_wp2
        go_ret
        exact ⟨rfl, fr⟩
    · clear HGT hBu hBt3
      go_wp2_with fail
      refine (drawGetNum a n c xs _ (h.below F) hm).mono ?_
      rintro e u1 ⟨vl, l, P, rfl, hl20, hP, RL, dl⟩
      obtain ⟨al, cl, rfl, adl, hBl⟩ := RL.slice
      have hlb := RL.2
      have G := F.trans (dl.mono F.size)
      clear RL dl F
      have GI := fun w hh => implGet al l.length cl l P w hh (by omega) hP
      have hbk := fun k e he => getN_back l P k e hlb he
      have hbd := getN_bounds l P hlb
      generalize getN l P = r at GI hbk hbd
      obtain ⟨k, st⟩ := r
      simp only at GI
      have hbk' := hbk k st rfl
      have hz : st < 0 ∨ 0 < st := by simp only [Prod.mk.injEq] at hbd; omega
      clear hbd
      have GI' : Hid _ := GI
      clear GI hbk
      go_wp2_with fail
      refine (GI'.out _ hBl).mono ?_
      rintro e u2 ⟨rfl, hu2⟩
      have hu2' := hu2.symm
      subst hu2'
      clear GI'
      by_cases hst : st < 0
      · clear hbk'
        have hd : decide (st < 0) = true := by simp [hst]
        go_wp2
        go_quiet (fail)
        go_wp2
        go_ret
        exact ⟨rfl, G.trans ((bel_drewN u1 _).mono G.size)⟩
      · have hst2 : decide (st < 0) = false := by simp [hst]
        have hbz : 0 < st := by omega
        obtain ⟨p0, p1, k0, k1, s1, heq⟩ := hbk' hbz
        obtain ⟨p, rfl⟩ := Int.eq_ofNat_of_zero_le p0
        obtain ⟨s, rfl⟩ := Int.eq_ofNat_of_zero_le (show 0 ≤ st by omega)
        simp only [Int.toNat_natCast] at heq
        have hln : p + (numB k).length = s := by
          have e := congrArg List.length heq
          simp at e
          omega
        rcases adl with ⟨_, hh, _⟩ | ⟨bl, ol, rfl⟩
        · omega
        have PP := fun w hh => implPut (some ⟨bl, ol, none⟩) p cl (l.take p) k w hh (by omega)
        rw [heq, hln] at PP
        have PP' : Hid _ := PP
        have bD : Below u1.heap.size u1 u1.drew := (Below.refl _ _).drew
        have hBp := (hBl.take p (by omega)).below bD
        have hBs := (hBl.take s (by omega)).below bD
        have HSB : Hid (∀ x ∈ l.take s, 0 ≤ x ∧ x < 256) := fun x hx => hlb x (List.mem_of_mem_take hx)
        have hcl := hBl.2.2.1
        have j1 : (p : Int) ≤ (cl : Int) := by omega
        have j2 : (s : Int) ≤ (cl : Int) := by omega
        have j3 : (0 : Int) ≤ (p : Int) := by omega
        have j4 : (0 : Int) ≤ (s : Int) := by omega
        have GD := G.trans (bD.mono G.size)
        clear PP heq hln hbk' hlb hBl G hz hbz hst p0
        go_wp2_with fail
        go_region_held3 (fun _ => True) (trivial)
          ((first
            | (go_at_call 16; refine (PP'.out _ hBp).mono ?_; rintro e u3 ⟨v3, rfl, o3, d3⟩; obtain ⟨a3', c3', rfl, _, hB3'⟩ := Bs.own o3 HSB.out)
            | (go_at_call 21; refine (sameT _ _ _ _ _ _ (l.take s) (l.take s) _ hB3' (hBs.below d3) rfl).mono ?_; rintro e u4 ⟨rfl, hu4⟩; have hu5 := hu4.symm; subst hu5)))
        have fr := GD.trans (d3.mono GD.size)
        go_wp2
        go_ret
        exact ⟨rfl, fr⟩
end Go.Proofs.Ytjgoliajgfeehaa

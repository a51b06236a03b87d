/-
  What is proved here: what is drawn as a flash that may be bent (l9bent), as a place (l9at), as a mask (l9drawMask); nothing that was there turns but the cursor; for every code.
-/
import Derived.Test.YtcnlpdpbkkjkoaaF9h
import Derived.Deep.CutRange
namespace Go.Proofs.Ytcnlpdpbkkjkoaa
set_option maxRecDepth 100000
set_option maxHeartbeats 4000000
open Go.RowKit
set_option linter.unusedVariables false

theorem Is.grownO {w w' : World} {a : Option Addr} {n c g : Nat} {xs : List Int} (h : Is w a n c xs) (hg : w.grownBy w' (some g)) (ho : OffB a n g) : Is w' a n c xs := by
  obtain ⟨h0, h1, h2, h3, h⟩ := h
  refine ⟨h0, h1, h2, h3, ?_⟩
  rcases h with h | ⟨b, o, rfl, hb, hc⟩
  · exact .inl h
  · rcases ho with ho | ho
    · exact .inl ho
    refine .inr ⟨b, o, rfl, Nat.lt_of_lt_of_le hb hg.size, fun j hj => ?_⟩
    have e : w'.heap[b]? = w.heap[b]? := hg.block b hb (fun e => ho _ rfl (Option.some.inj e))
    rw [← hc j hj]
    simp only [World.cell?, e]
/-- A flash as it is read, behind a point of memory. -/
structure FlR (lo : Nat) (W : World) (aB : Option Addr) (nB cB : Nat) (aW : Option Addr) (nW cW : Nat) (bs ws : List Int) : Prop where
  b : Bs W aB nB cB bs
  w : Is W aW nW cW ws
  nb : nB ≤ 4096
  nw : nW ≤ 64
  lb : ∀ x, aB = some x → lo ≤ x.block
  lw : ∀ x, aW = some x → lo ≤ x.block
section
variable {lo : Nat} {W W' : World} {aB : Option Addr} {nB cB : Nat} {aW : Option Addr} {nW cW : Nat} {bs ws : List Int}
theorem FlR.grown (h : FlR lo W aB nB cB aW nW cW bs ws) {p : Nat} (hg : W.grownBy W' (some p)) (hp : p < lo) : FlR lo W' aB nB cB aW nW cW bs ws :=
  ⟨h.b.grownO hg (.inr fun x hx => by have := h.lb x hx; omega), h.w.grownO hg (.inr fun x hx => by have := h.lw x hx; omega), h.nb, h.nw, h.lb, h.lw⟩
theorem FlR.below (h : FlR lo W aB nB cB aW nW cW bs ws) (hb : Below W.heap.size W W') : FlR lo W' aB nB cB aW nW cW bs ws := ⟨h.b.below hb, h.w.below hb, h.nb, h.nw, h.lb, h.lw⟩
end
theorem own_lo {W : World} {lo e n c : Nat} {a : Option Addr} {l : List Value} (h : W.ownsRow lo e 1 (.slice a n c) n l) : ∀ x, a = some x → lo ≤ x.block := by
  intro x hx
  rcases h.2 with ⟨e, _⟩ | ⟨g, cap, cur, e, hg, _⟩
  · injection e with e; rw [hx] at e; cases e
  · injection e with e; rw [hx] at e; injection e with e; subst e; exact hg

theorem curAt9 (p : Nat) (a : Option Addr) (n c : Nat) (xs : List Int) (w : World) (hcur : Cur w p a n c) (hcode : Coded w p a n c xs) :
    Calls Try.prog 56 #[.pointer (some ⟨p, 0, none⟩)] w fun e w' => ∃ x : Int, e = .returned (.int .i64 x) ∧ -9223372036854775808 ≤ x ∧ x ≤ 9223372036854775807 ∧ Cur w' p a n c ∧ w.grownBy w' (some p) := by
  have hp0 := cur_lt hcur
  go_enter Try.func56, Try.ntmps56
  go_wp2_with fail
  refine (curBelow p a n c xs _ _ hcur hcode (by omega)).mono ?_
  rintro e w1 ⟨y, rfl, hy0, hy1, _, hc1, hg1⟩
  have hy2 := hy1 (by omega)
  have hcode1 := hcode.grown hg1
  obtain ⟨L, hL⟩ : ∃ L : List Int, L = [0, 1, 60, 63, 64, 100, 3071, 3072, 3073, -1, 9223372036854775807, y] := ⟨_, rfl⟩
  have hcell := cells_arr w1 L 3
  have hga := grown_alloc w1 (.cells (L.map (Value.int .i64)).toArray 3) (some p)
  have hc2 := cur_keep hc1 (grown_alloc w1 (.cells (L.map (Value.int .i64)).toArray 3) none) (by simp)
  have hp1 := cur_lt hc1
  have hLm : ∀ x ∈ L, -9223372036854775808 ≤ x ∧ x ≤ 9223372036854775807 := by rw [hL]; intro x hx; simp only [List.mem_cons, List.not_mem_nil, or_false] at hx; omega
  have hLl : L.length = 12 := by rw [hL]; rfl
  obtain ⟨X, hX⟩ : ∃ X, X = w1.alloc (.cells (L.map (Value.int .i64)).toArray 3) := ⟨_, rfl⟩
  rw [← hX] at hcell hga hc2
  rw [hL] at hX
  have hcode2 := hcode1.grown hga
  clear hy1
  go_wp2_with fail
  rw [show w1.alloc (.cells #[.int .i64 0, .int .i64 1, .int .i64 60, .int .i64 63, .int .i64 64, .int .i64 100, .int .i64 3071, .int .i64 3072, .int .i64 3073, .int .i64 (-1), .int .i64 9223372036854775807, .int .i64 y] 3) = X from hX.symm]
  refine (curPick p a n c xs w1.heap.size 12 L _ hc2 hcode2 hLl (by omega) (by omega) (by omega) (fun j hj => hcell j (by omega))).mono ?_
  rintro e w3 ⟨x, rfl, hx, hc3, hg3⟩
  have hr := hLm x hx
  have hg := grown_trans (grown_trans hg1 hga) hg3
  clear hcell hga hc2 hcode1 hcode2 hg1 hg3 hX hL hLm hx hLl
  go_wp2
  go_ret
  exact ⟨x, rfl, hr.1, hr.2, hc3, hg⟩

theorem curMask9 (p : Nat) (a : Option Addr) (n c : Nat) (xs : List Int) (w : World) (hcur : Cur w p a n c) (hcode : Coded w p a n c xs) :
    Calls Try.prog 66 #[.pointer (some ⟨p, 0, none⟩)] w fun e w' => ∃ (v : Value) (l : List Int), e = .returned v ∧ l.length ≤ 257 ∧ Msg w w' p a n c v l := by
  have hp0 := cur_lt hcur
  obtain ⟨i0, hi, hz0, hz1, hz2⟩ := info_parts Try.info5
  go_enter Try.func66, Try.ntmps66
  go_wp2_with fail
  refine (curBelow p a n c xs _ _ hcur hcode (by omega)).mono ?_
  rintro e w1 ⟨k, rfl, hk0, hk1, _, hc1, hg1⟩
  have hk2 := hk1 (by omega)
  clear hk1 hcur
  obtain ⟨M, rfl⟩ := Int.eq_ofNat_of_zero_le hk0
  have A0 : Msg w w1 p a n c (.slice none 0 0) [] := ⟨(fun x hx => by cases hx), World.ownsRow_nil _ _ _ _, hc1, hg1⟩
  clear hc1 hg1
  go_wp2
  go_loopw [3, 5] (fun v i wr => ∃ (l : List Int), l.length ≤ M ∧ i = .int .i64 (l.length : Int) ∧ Msg w wr p a n c v l) (fun _ i _ => M - (intOf i).toNat)
  case atStart => exact ⟨[], by simp, rfl, A0⟩
  case round =>
    obtain ⟨l, hlM, rfl, A⟩ := hrel
    clear A0
    by_cases hlt : l.length < M
    · have hcd := hcode.grown A.gr
      go_wp2_with fail
      refine (curByte p a n c xs _ A.cur hcd).mono ?_
      rintro e w3 ⟨x, rfl, hx0, hx1, hc3, hg3⟩
      have hcv : IntKind.u8.wrap x = x := by simp [IntKind.wrap, IntKind.signed, IntKind.bits]; omega
      have ow := A.own1 hp0 hg3
      have hs2 := (grown_trans A.gr hg3).size
      go_wp2_with (at_builtin; refine wpl_append_bs rfl _ _ rfl w.heap.size _ l.length l rfl (some ⟨w3.heap.size, 0, none⟩) 1 1 [x] rfl (ow.alloc _) (Bs.one _ _ hx0 (by omega)) ?_ ?_ ?_)
      · omega
      · first | omega | (simp; omega)
      intro v' w4 h1 h2 _
      have A2 := A.step hp0 hg3 hc3 ⟨hx0, hx1⟩ _ (by simpa [U8] using h1) h2
      clear h1 h2 ow hc3 hg3 A hcd
      go_wp2
      go_roundw
      case rel => exact ⟨l ++ [x], by simp; omega, by simp, A2⟩
      case measure => simp [intOf]; omega
    · have hcd := hcode.grown A.gr
      go_wp2_with fail
      refine (curOnce p a n c xs _ _ A.cur hcd (by omega)).mono ?_
      rintro e w3 ⟨q, rfl, hc3, hg3⟩
      have ow := A.own1 hp0 hg3
      have A3 : Msg w w3 p a n c _ l := ⟨A.byt, ow, hc3, grown_trans A.gr hg3⟩
      clear A ow hc3 hg3 hcd
      cases q with
      | false =>
        go_wp2
        go_ret
        exact ⟨_, l, rfl, by omega, A3⟩
      | true =>
        go_wp2_with fail
        refine (curBelow p a n c xs _ _ A3.cur (hcode.grown A3.gr) (by omega)).mono ?_
        rintro e w4 ⟨y, rfl, hy0, hy1, _, hc4, hg4⟩
        have hy2 := hy1 (by omega)
        obtain ⟨Y, rfl⟩ := Int.eq_ofNat_of_zero_le hy0
        have hgr := grown_trans A3.gr hg4
        have hwy : IntKind.i64.wrap (256 + (Y : Int)) = ((256 + Y : Nat) : Int) := by rw [IntKind.wrap_i64]; omega
        clear hy1 A3 hg4
        have hs4 := hgr.size
        go_wp2_with (at_make; refine wpList_make_full _ rfl _ _ 22 rfl w.heap.size 5 i0 (.int .u8 0) 1 Try.underlying22 hi hz0 hz1 .i64 .i64 _ _ (256 + Y) rfl rfl (by first | rfl | exact hwy) (by first | rfl | exact hwy) (by rw [hz2]; omega) (by unfold maxLen; omega) (by omega) ?_; intro w5 hown hgrow)
        have o5 : w5.ownsRow w.heap.size 5 1 (.slice (some ⟨w4.heap.size, 0, none⟩) (256 + Y) (256 + Y)) (List.replicate (256 + Y) (0 : Int)).length (U8 (List.replicate (256 + Y) 0)) := by
          have e : (madeCells (Value.int IntKind.u8 0).cells ((256 + Y) * 1)).toList = U8 (List.replicate (256 + Y) 0) := by
            rw [Nat.mul_one]; simpa [U8, Value.cells] using toList_madeCells_one (.int .u8 0) (256 + Y)
          rw [← e, List.length_replicate]; exact hown
        have g5 := grown_into hgr hgrow (by intro k hk; cases hk)
        have c5 := cur_keep hc4 hgrow (by simp)
        clear hown hgrow hgr hc4
        go_wp2
        go_ret
        exact ⟨_, List.replicate (256 + Y) 0, rfl, by rw [List.length_replicate]; omega, ⟨fun x hx => by rw [List.mem_replicate] at hx; omega, o5, c5, g5⟩⟩

theorem D9.flr {w W : World} {p : Nat} {a : Option Addr} {n c lo F g cg g' cg' k : Nat} {bs ws : List Int} (h : D9 w W p a n c lo F g cg g' cg' k bs ws) (hk : k ≤ 1000000) : FlR lo W (some ⟨g, 0, none⟩) 3072 cg (some ⟨g', 0, none⟩) 48 cg' bs ws :=
  ⟨bs_of_own h.fa.o.ob h.byt, is_of_own h.fa.o.ow (fun x hx => by have := h.wr x hx; omega), by omega, by omega, own_lo h.fa.o.ob, own_lo h.fa.o.ow⟩

theorem curBent9 (p : Nat) (a : Option Addr) (n c : Nat) (xs : List Int) (w : World) (hcur : Cur w p a n c) (hcode : Coded w p a n c xs) :
    Calls Try.prog 55 #[.pointer (some ⟨p, 0, none⟩)] w fun e w' => ∃ aB nB cB aW nW cW bs ws, e = .returned (flV aB nB cB aW nW cW) ∧ FlR w.heap.size w' aB nB cB aW nW cW bs ws ∧ Cur w' p a n c ∧ w.grownBy w' (some p) := by
  have hp0 := cur_lt hcur
  obtain ⟨V, hV⟩ : ∃ V, V = w.alloc (.cells #[.slice none 0 0, .slice none 0 0] 25) := ⟨_, rfl⟩
  have bV : Below w.heap.size w V := by rw [hV]; exact (Below.refl _ _).alloc (Nat.le_refl _) _
  have AV : Arr V w.heap.size 25 [.slice none 0 0, .slice none 0 0] := by rw [hV]; exact Arr.new _ _ _
  have zV : w.heap.size + 1 ≤ V.heap.size := by rw [hV]; simp
  have cV : Cur V p a n c := cur_keep hcur (grown_of_below (row := none) bV) (by simp)
  have gV : w.grownBy V (some p) := grown_of_below bV
  go_enter Try.func55, Try.ntmps55
  go_wp2_with fail
  rw [← hV]
  clear hV
  refine (curDraw9 p a n c xs _ cV (hcode.grown gV)).mono ?_
  rintro e w1 ⟨g, cg, g', cg', bs, ws, rfl, O, hby, hwr, c1, g1⟩
  have z1 := g1.size
  have A1 : Arr w1 w.heap.size 25 [.slice none 0 0, .slice none 0 0] := AV.grown g1 (by omega)
  have FA : Fa (w1.alloc (.cells #[.slice (some ⟨g, 0, none⟩) 3072 cg, .slice (some ⟨g', 0, none⟩) 48 cg'] 25)) V.heap.size w1.heap.size (some ⟨g, 0, none⟩) 3072 cg (some ⟨g', 0, none⟩) 48 cg' bs ws := Fa.new O z1
  obtain ⟨X, hX⟩ : ∃ X, X = w1.alloc (.cells #[.slice (some ⟨g, 0, none⟩) 3072 cg, .slice (some ⟨g', 0, none⟩) 48 cg'] 25) := ⟨_, rfl⟩
  rw [← hX] at FA
  have bX : Below w1.heap.size w1 X := by rw [hX]; exact (Below.refl _ _).alloc (Nat.le_refl _) _
  have D : D9 w X p a n c V.heap.size w1.heap.size g cg g' cg' 6 bs ws := ⟨FA, hby, hwr, cur_keep c1 (grown_of_below (row := none) bX) (by simp), grown_trans (grown_trans gV g1) (grown_of_below bX), A1.kept bX, zV, hp0⟩
  clear FA bX O AV bV hcur cV gV g1 c1 A1 hby hwr
  go_wp2_with fail
  rw [← hX]
  clear hX
  refine (curOnce p a n c xs _ _ D.cu (hcode.grown D.gr) (by omega)).mono ?_
  rintro e w2 ⟨q, rfl, hc2, hg2⟩
  replace D := D.cur hc2 hg2
  clear hc2 hg2
  obtain ⟨lo, hlo⟩ : ∃ lo, lo = V.heap.size := ⟨_, rfl⟩
  obtain ⟨F, hF⟩ : ∃ F, F = w1.heap.size := ⟨_, rfl⟩
  rw [← hlo, ← hF] at D
  rw [← hF]
  clear hlo hF z1 zV
  have q0 := D.lo1
  obtain ⟨q1, q2, q3, q4, q5⟩ := D.g1
  have hcg : 3072 ≤ cg := (D.flr (by omega)).b.2.2.1
  cases q with
  | false =>
    have dR := arr2 D.rz
    have fR := D.rz.frozen
    have lR := D.rz.lt
    have dQ := arr2 D.fa.p
    have lQ := D.fa.p.lt
    have K : Arr ((w2.setCell ⟨w.heap.size, 0, none⟩ (.slice (some ⟨g, 0, none⟩) 3072 cg)).setCell ⟨w.heap.size, 1, none⟩ (.slice (some ⟨g', 0, none⟩) 48 cg')) w.heap.size 25 [.slice (some ⟨g, 0, none⟩) 3072 cg, .slice (some ⟨g', 0, none⟩) 48 cg'] := (D.rz.set 0 _).set 1 _
    have g1 := cur_grown2 w2 w.heap.size (.slice (some ⟨g, 0, none⟩) 3072 cg) 0
    have g2 := cur_grown2 (w2.setCell ⟨w.heap.size, 0, none⟩ (.slice (some ⟨g, 0, none⟩) 3072 cg)) w.heap.size (.slice (some ⟨g', 0, none⟩) 48 cg') 1
    have GF := grown_into (grown_into D.gr g1 (fun k hk => by injection hk with hk; omega)) g2 (fun k hk => by injection hk with hk; omega)
    have CF := cur_keep (cur_keep D.cu g1 (by intro e; injection e with e; omega)) g2 (by intro e; injection e with e; omega)
    have FF := ((D.flr (by omega)).grown g1 (by omega)).grown g2 (by omega)
    have HK : Hid _ := K
    have HG : Hid _ := GF
    have HC : Hid _ := CF
    have HFF : Hid _ := FF
    clear K g1 g2 GF CF FF
    go_wp2
    exact bodyPost_ret (results_cell_row rfl _ _ w.heap.size 25 _ (0, 0) _ rfl HK.out Try.underlying25 rfl (by kernel_rfl)) rfl ⟨_, _, _, _, _, _, _, _, rfl, ⟨HFF.out.b, HFF.out.w, HFF.out.nb, HFF.out.nw, fun x hx => Nat.le_trans (by omega) (HFF.out.lb x hx), fun x hx => Nat.le_trans (by omega) (HFF.out.lw x hx)⟩, HC.out, HG.out⟩
  | true =>
    go_wp2_with fail
    refine (curBelow p a n c xs _ _ D.cu (hcode.grown D.gr) (by omega)).mono ?_
    rintro e w3 ⟨k, rfl, hk0, hk1, _, hc3, hg3⟩
    have hk2 := hk1 (by omega)
    replace D := D.cur hc3 hg3
    clear hc3 hg3 hk1
    by_cases e0 : k = 0
    · subst e0
      have dF := D.fa.cells
      have fF := D.fa.p.frozen
      have lF := D.fa.p.lt
      have hne : cg ≠ 1 := by omega
      go_upto_region 9 with fail
      obtain ⟨Y, hY⟩ : ∃ Y, Y = w3.setCell ⟨F, 0, none⟩ (.slice (some ⟨g, 1, none⟩) 3071 (cg - 1)) := ⟨_, rfl⟩
      have gY : w3.grownBy Y (some F) := by rw [hY]; exact cur_grown2 _ _ _ _
      have AY : Arr Y F 25 [.slice (some ⟨g, 1, none⟩) 3071 (cg - 1), .slice (some ⟨g', 0, none⟩) 48 cg'] := by rw [hY]; exact D.fa.p.set 0 _
      have F0 := D.flr (by omega)
      have FY : FlR lo Y (some ⟨g, 1, none⟩) 3071 (cg - 1) (some ⟨g', 0, none⟩) 48 cg' ((bs.drop 1).take 3071) ws :=
        ⟨by have := (F0.b.mid 1 3071 (by omega)).grownO gY (.inr (by intro x hx; injection hx with hx; subst hx; simp only; omega)); simpa using this, F0.w.grownO gY (.inr (by intro x hx; injection hx with hx; subst hx; simp only; omega)), by omega, by omega, fun x hx => by injection hx with hx; subst hx; exact q1, F0.lw⟩
      have cY : Cur Y p a n c := cur_keep D.cu gY (by intro e; injection e with e; omega)
      have grY : w.grownBy Y (some p) := grown_into D.gr gY (fun k hk => by injection hk with hk; omega)
      have rY : Arr Y w.heap.size 25 [.slice none 0 0, .slice none 0 0] := D.rz.grown gY (by omega)
      rw [← hY]
      clear hY dF fF lF hne F0 gY D
      have dR := arr2 rY
      have fR := rY.frozen
      have lR := rY.lt
      have dQ := arr2 AY
      have lQ := AY.lt
      have K : Arr ((Y.setCell ⟨w.heap.size, 0, none⟩ (.slice (some ⟨g, 1, none⟩) 3071 (cg - 1))).setCell ⟨w.heap.size, 1, none⟩ (.slice (some ⟨g', 0, none⟩) 48 cg')) w.heap.size 25 [.slice (some ⟨g, 1, none⟩) 3071 (cg - 1), .slice (some ⟨g', 0, none⟩) 48 cg'] := (rY.set 0 _).set 1 _
      have g1 := cur_grown2 Y w.heap.size (.slice (some ⟨g, 1, none⟩) 3071 (cg - 1)) 0
      have g2 := cur_grown2 (Y.setCell ⟨w.heap.size, 0, none⟩ (.slice (some ⟨g, 1, none⟩) 3071 (cg - 1))) w.heap.size (.slice (some ⟨g', 0, none⟩) 48 cg') 1
      have GF := grown_into (grown_into grY g1 (fun k hk => by injection hk with hk; omega)) g2 (fun k hk => by injection hk with hk; omega)
      have CF := cur_keep (cur_keep cY g1 (by intro e; injection e with e; omega)) g2 (by intro e; injection e with e; omega)
      have FF := (FY.grown g1 (by omega)).grown g2 (by omega)
      have HK : Hid _ := K
      have HG : Hid _ := GF
      have HC : Hid _ := CF
      have HFF : Hid _ := FF
      clear K g1 g2 GF CF FF
      go_wp2
      exact bodyPost_ret (results_cell_row rfl _ _ w.heap.size 25 _ (0, 0) _ rfl HK.out Try.underlying25 rfl (by kernel_rfl)) rfl ⟨_, _, _, _, _, _, _, _, rfl, ⟨HFF.out.b, HFF.out.w, HFF.out.nb, HFF.out.nw, fun x hx => Nat.le_trans (by omega) (HFF.out.lb x hx), fun x hx => Nat.le_trans (by omega) (HFF.out.lw x hx)⟩, HC.out, HG.out⟩
    by_cases e1 : k = 1
    · subst e1
      have lF := D.fa.p.lt
      have hpw := cur_lt D.cu
      have Dd := D.below (Below.refl _ _).drew
      have DA := D.below ((Below.refl _ w3).alloc (Nat.le_refl _) (.cells (([-1, 200, 201] : List Int).map (Value.int .i64)).toArray 3)).drew
      have DA' := D.below ((Below.refl _ w3).drew.alloc (Nat.le_refl _) (.cells (([-1, 200, 201] : List Int).map (Value.int .i64)).toArray 3))
      go_wp2
      go_region_held3 (fun W => W.cell? ⟨F, 1, none⟩ = some (.slice (some ⟨g', 0, none⟩) 48 cg')) (first | exact Dd.fa.p.cell 1 | exact DA.fa.p.cell 1 | exact DA'.fa.p.cell 1 | exact D7.fa.p.cell 1 | exact D8.fa.p.cell 1 | exact D9'.fa.p.cell 1 | exact (D9'.fa.p.other ⟨g', J, none⟩ _ (by show F ≠ g'; omega)).cell 1)
        (first
          | (go_at_call 87
             first
             | (refine (curBelow p a n c xs 3 w3.drew Dd.cu (hcode.grown Dd.gr) (by omega)).mono ?_
                rintro e w5 ⟨J0, rfl, hJ0, hJ1, _, hc5, hg5⟩
                have hJ2 := hJ1 (by omega)
                obtain ⟨J, rfl⟩ := Int.eq_ofNat_of_zero_le hJ0
                have hJ48 : (J : Int) < 48 := by omega
                have D7 := Dd.cur hc5 hg5
                have D8 := D7.below ((Below.refl _ w5).alloc (Nat.le_refl _) (.cells (([-1, 200, 201] : List Int).map (Value.int .i64)).toArray 3))
                have lF5 := D7.fa.p.lt
                have hp5 := cur_lt D7.cu
                have hcellA : ∀ j, j < 3 → (w5.alloc (.cells (([-1, 200, 201] : List Int).map (Value.int .i64)).toArray 3)).cell? ⟨w5.heap.size, j, none⟩ = some (.int .i64 (([-1, 200, 201] : List Int).getD j 0)) := fun j hj => cells_arr w5 [-1, 200, 201] 3 j hj
                clear hc5 hg5 hJ1)
             | (refine (curBelow p a n c xs 3 _ DA.cu (hcode.grown DA.gr) (by omega)).mono ?_
                rintro e w5 ⟨J0, rfl, hJ0, hJ1, _, hc5, hg5⟩
                have hJ2 := hJ1 (by omega)
                obtain ⟨J, rfl⟩ := Int.eq_ofNat_of_zero_le hJ0
                have hJ48 : (J : Int) < 48 := by omega
                have D7 := DA.cur hc5 hg5
                have D8 := D7.below (Below.refl _ w5)
                have lF5 := D7.fa.p.lt
                have hp5 := cur_lt D7.cu
                have hcellA : ∀ j, j < 3 → w5.cell? ⟨w3.heap.size, j, none⟩ = some (.int .i64 (([-1, 200, 201] : List Int).getD j 0)) := fun j hj => by
                  rw [World.cell?_of_block (hg5.block w3.heap.size (by simp) (by intro e; injection e with e; omega))]
                  exact cells_arr w3 [-1, 200, 201] 3 j hj
                clear hc5 hg5 hJ1))
          | (go_at_call 59
             first
             | (refine (curPick p a n c xs w5.heap.size 3 [-1, 200, 201] _ D8.cu (hcode.grown D8.gr) rfl (by omega) (by omega) (by omega) hcellA).mono ?_
                rintro e w7 ⟨x, rfl, hx, hc7, hg7⟩
                have D9' := D8.cur hc7 hg7
                have hxi : -9223372036854775808 ≤ x ∧ x ≤ 9223372036854775807 := by
                  simp only [List.mem_cons, List.not_mem_nil, or_false] at hx
                  omega
                obtain ⟨u, hu⟩ : ∃ u, w7.cell? ⟨g', J, none⟩ = some u := by
                  rw [D9'.fa.o.ow.cellAt J (by omega)]
                  have : J < (I64 ws).length := by have := D9'.fa.o.ow.1; omega
                  exact ⟨_, List.getElem?_eq_getElem this⟩
                have hf7 := D9'.fa.o.ow.frozenAt J
                clear hc7 hg7 hx hcellA D8 D7)
             | (refine (curPick p a n c xs w3.heap.size 3 [-1, 200, 201] _ D8.cu (hcode.grown D8.gr) rfl (by omega) (by omega) (by omega) hcellA).mono ?_
                rintro e w7 ⟨x, rfl, hx, hc7, hg7⟩
                have D9' := D8.cur hc7 hg7
                have hxi : -9223372036854775808 ≤ x ∧ x ≤ 9223372036854775807 := by
                  simp only [List.mem_cons, List.not_mem_nil, or_false] at hx
                  omega
                obtain ⟨u, hu⟩ : ∃ u, w7.cell? ⟨g', J, none⟩ = some u := by
                  rw [D9'.fa.o.ow.cellAt J (by omega)]
                  have : J < (I64 ws).length := by have := D9'.fa.o.ow.1; omega
                  exact ⟨_, List.getElem?_eq_getElem this⟩
                have hf7 := D9'.fa.o.ow.frozenAt J
                clear hc7 hg7 hx hcellA D8 D7)))
      all_goals
        have st := D9'.fa.o.ow.stored J (.int .i64 x)
        rw [show (I64 ws).set J (.int .i64 x) = I64 (ws.set J x) by simp [I64]] at st
        obtain ⟨Y, hY⟩ : ∃ Y, Y = w7.setCell ⟨g', J, none⟩ (.int .i64 x) := ⟨_, rfl⟩
        rw [← hY] at st
        have gY := st.2
        have AY : Arr Y F 25 [.slice (some ⟨g, 0, none⟩) 3072 cg, .slice (some ⟨g', 0, none⟩) 48 cg'] := D9'.fa.p.grown gY (by omega)
        have F0 := D9'.flr (by omega)
        have FY : FlR lo Y (some ⟨g, 0, none⟩) 3072 cg (some ⟨g', 0, none⟩) 48 cg' bs (ws.set J x) := ⟨F0.b.grownO gY (.inr (by intro z hz; injection hz with hz; subst hz; exact q5)), is_of_own st.1 (fun z hz => by
          rcases List.mem_or_eq_of_mem_set hz with hz | hz
          · have := D9'.wr z hz; omega
          · omega), by omega, by omega, F0.lb, F0.lw⟩
        have cY : Cur Y p a n c := cur_keep D9'.cu gY (by intro e; injection e with e; omega)
        have grY : w.grownBy Y (some p) := grown_into D9'.gr gY (fun k hk => by injection hk with hk; omega)
        have rY : Arr Y w.heap.size 25 [.slice none 0 0, .slice none 0 0] := D9'.rz.grown gY (by omega)
        rw [← hY]
        clear hY F0 gY st hu hf7 D9' D Dd DA DA' lF hpw
        have dR := arr2 rY
        have fR := rY.frozen
        have lR := rY.lt
        have dQ := arr2 AY
        have lQ := AY.lt
        have K : Arr ((Y.setCell ⟨w.heap.size, 0, none⟩ (.slice (some ⟨g, 0, none⟩) 3072 cg)).setCell ⟨w.heap.size, 1, none⟩ (.slice (some ⟨g', 0, none⟩) 48 cg')) w.heap.size 25 [.slice (some ⟨g, 0, none⟩) 3072 cg, .slice (some ⟨g', 0, none⟩) 48 cg'] := (rY.set 0 _).set 1 _
        have g1 := cur_grown2 Y w.heap.size (.slice (some ⟨g, 0, none⟩) 3072 cg) 0
        have g2 := cur_grown2 (Y.setCell ⟨w.heap.size, 0, none⟩ (.slice (some ⟨g, 0, none⟩) 3072 cg)) w.heap.size (.slice (some ⟨g', 0, none⟩) 48 cg') 1
        have GF := grown_into (grown_into grY g1 (fun k hk => by injection hk with hk; omega)) g2 (fun k hk => by injection hk with hk; omega)
        have CF := cur_keep (cur_keep cY g1 (by intro e; injection e with e; omega)) g2 (by intro e; injection e with e; omega)
        have FF := (FY.grown g1 (by omega)).grown g2 (by omega)
        have HK : Hid _ := K
        have HG : Hid _ := GF
        have HC : Hid _ := CF
        have HFF : Hid _ := FF
        clear K g1 g2 GF CF FF
        go_wp2
        exact bodyPost_ret (results_cell_row rfl _ _ w.heap.size 25 _ (0, 0) _ rfl HK.out Try.underlying25 rfl (by kernel_rfl)) rfl ⟨_, _, _, _, _, _, _, _, rfl, ⟨HFF.out.b, HFF.out.w, HFF.out.nb, HFF.out.nw, fun x hx => Nat.le_trans (by omega) (HFF.out.lb x hx), fun x hx => Nat.le_trans (by omega) (HFF.out.lw x hx)⟩, HC.out, HG.out⟩
    · have e2 : k = 2 := by omega
      subst e2
      have dF := D.fa.cells
      have lF := D.fa.p.lt
      have F0 := D.flr (by omega)
      have hos := D.fa.o.ow.alloc (.cells #[.int .i64 0] 3)
      have hone := Is.one w3 0 (by omega) (by omega)
      have bL : Below w3.heap.size w3 (w3.alloc (.cells #[.int .i64 0] 3)) := (Below.refl _ _).alloc (Nat.le_refl _) _
      have zL := bL.size
      have FL := D.fa.p.kept bL
      have dFL := arr2 FL
      have fFL := FL.frozen
      have z3 := (grown_trans D.gr (World.grownBy.refl w3 (some p))).size
      have zlo : lo ≤ w3.heap.size := by have := D.fa.lp; omega
      clear dF
      have dF := D.fa.cells
      go_wp2_with (at_builtin; refine wpl_append_is rfl _ _ rfl lo _ 48 ws rfl _ 1 1 [0] rfl hos hone ?_ ?_ ?_)
      · omega
      · first | omega | (simp; omega)
      intro v2 y2 o2 g2 _
      obtain ⟨a2, k2, rfl, _, i2⟩ := Is.own (xs := ws ++ [0]) (by simpa [I64] using o2) (fun x hx => by
        rcases List.mem_append.1 hx with hx | hx
        · have := D.wr x hx; omega
        · simp at hx; omega)
      have l2 := own_lo o2
      obtain ⟨g3, k3, e3⟩ := row_shape o2 (by omega)
      injection e3 with e3 e4 e5
      subst e3
      clear e4 e5
      have gg : w3.grownBy y2 (some g') := grown_trans (grown_alloc w3 _ _) g2
      have A2 : Arr y2 F 25 [.slice (some ⟨g, 0, none⟩) 3072 cg, .slice (some ⟨g', 0, none⟩) 48 cg'] := D.fa.p.grown gg (by omega)
      have n2 : g3 ≠ F := fun e => own_ty o2 A2 (by decide) (by rw [e]; rfl)
      have B2 := F0.b.grownO gg (.inr (by intro x hx; injection hx with hx; subst hx; exact q5))
      have R2 : Arr y2 w.heap.size 25 [.slice none 0 0, .slice none 0 0] := D.rz.grown gg (by omega)
      have C2 : Cur y2 p a n c := cur_keep D.cu gg (by intro e; injection e with e; omega)
      have G2 : w.grownBy y2 (some p) := grown_into D.gr gg (fun k hk => by injection hk with hk; omega)
      have dF2 := arr2 A2
      have fF2 := A2.frozen
      have lF2 := A2.lt
      clear o2 g2 gg hos hone bL FL dFL fFL F0 D dF lF
      go_upto_region 9 with fail
      obtain ⟨Y, hY⟩ : ∃ Y, Y = y2.setCell ⟨F, 1, none⟩ (.slice (some ⟨g3, 0, none⟩) 49 k2) := ⟨_, rfl⟩
      have gY : y2.grownBy Y (some F) := by rw [hY]; exact cur_grown2 _ _ _ _
      have AY : Arr Y F 25 [.slice (some ⟨g, 0, none⟩) 3072 cg, .slice (some ⟨g3, 0, none⟩) 49 k2] := by rw [hY]; exact A2.set 1 _
      have FY : FlR lo Y (some ⟨g, 0, none⟩) 3072 cg (some ⟨g3, 0, none⟩) 49 k2 bs (ws ++ [0]) := ⟨B2.grownO gY (.inr (by intro x hx; injection hx with hx; subst hx; simp only; omega)), Is.grownO i2 gY (.inr (by intro x hx; injection hx with hx; subst hx; exact n2)), by omega, by omega, fun x hx => by injection hx with hx; subst hx; exact q1, l2⟩
      have cY : Cur Y p a n c := cur_keep C2 gY (by intro e; injection e with e; omega)
      have grY : w.grownBy Y (some p) := grown_into G2 gY (fun k hk => by injection hk with hk; omega)
      have rY : Arr Y w.heap.size 25 [.slice none 0 0, .slice none 0 0] := R2.grown gY (by omega)
      rw [← hY]
      clear hY dF2 fF2 lF2 gY A2 B2 R2 C2 G2
      have dR := arr2 rY
      have fR := rY.frozen
      have lR := rY.lt
      have dQ := arr2 AY
      have lQ := AY.lt
      have K : Arr ((Y.setCell ⟨w.heap.size, 0, none⟩ (.slice (some ⟨g, 0, none⟩) 3072 cg)).setCell ⟨w.heap.size, 1, none⟩ (.slice (some ⟨g3, 0, none⟩) 49 k2)) w.heap.size 25 [.slice (some ⟨g, 0, none⟩) 3072 cg, .slice (some ⟨g3, 0, none⟩) 49 k2] := (rY.set 0 _).set 1 _
      have g1 := cur_grown2 Y w.heap.size (.slice (some ⟨g, 0, none⟩) 3072 cg) 0
      have g2 := cur_grown2 (Y.setCell ⟨w.heap.size, 0, none⟩ (.slice (some ⟨g, 0, none⟩) 3072 cg)) w.heap.size (.slice (some ⟨g3, 0, none⟩) 49 k2) 1
      have GF := grown_into (grown_into grY g1 (fun k hk => by injection hk with hk; omega)) g2 (fun k hk => by injection hk with hk; omega)
      have CF := cur_keep (cur_keep cY g1 (by intro e; injection e with e; omega)) g2 (by intro e; injection e with e; omega)
      have FF := (FY.grown g1 (by omega)).grown g2 (by omega)
      have HK : Hid _ := K
      have HG : Hid _ := GF
      have HC : Hid _ := CF
      have HFF : Hid _ := FF
      clear K g1 g2 GF CF FF
      go_wp2
      exact bodyPost_ret (results_cell_row rfl _ _ w.heap.size 25 _ (0, 0) _ rfl HK.out Try.underlying25 rfl (by kernel_rfl)) rfl ⟨_, _, _, _, _, _, _, _, rfl, ⟨HFF.out.b, HFF.out.w, HFF.out.nb, HFF.out.nw, fun x hx => Nat.le_trans (by omega) (HFF.out.lb x hx), fun x hx => Nat.le_trans (by omega) (HFF.out.lw x hx)⟩, HC.out, HG.out⟩
end Go.Proofs.Ytcnlpdpbkkjkoaa

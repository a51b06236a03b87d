/-
  What is proved here: what a draw of a list of records (the specification's l10list) answers; rows of records that begin within their block, and append onto such a row; no program's function is spoken of; an int that fits is not wrapped; no program is spoken of.
-/
import Derived.Test.YtjceajgefpinpaaZb1
import Derived.Test.YtjceajgefpinpaaJN2
import Derived.Deep.CutRange
import Derived.Deep.RegionHeld3
import Derived.BigRegion
import Derived.Maps.AppendAt
import Derived.Laws.OwnMore
import Derived.ArgAppend
import Derived.Test.YtjceajgefpinpaaJN1
namespace Go.Proofs.Ytjceajgefpinpaa
open Go.RowKit
set_option maxRecDepth 100000
set_option maxHeartbeats 4000000
set_option linter.unusedVariables false

theorem FL_oneZ : ∀ (xs : List Rc), ∀ u ∈ FL xs, u.oneCell' = true
  | [], u, h => by cases h
  | r :: t, u, h => by
    simp only [FL, List.mem_cons] at h
    rcases h with rfl | rfl | rfl | rfl | h
    · rfl
    · rfl
    · rfl
    · rfl
    · exact FL_oneZ t u h
theorem wpl_app_rc {w : World} {ops : Array Oper} {rest : List Oper} {o : Oper} {a : Act} {Q : Exit → Act → World → Prop} (hgd : o.guard = none) (s x : Operand)
    (ho : o.op = .call { callee := .builtin .append, args := #[s, x], argTypes := #[24, 24] })
    (base : Nat) (v : Value) (n : Nat) (xs : List Rc) (hs : a.eval s = v) (g c : Nat) (r : Rc) (hx : a.eval x = .slice (some ⟨g, 0, none⟩) 1 c)
    (hown : w.ownsRow base 29 4 v n (FL xs)) (A : Arr w g 29 (rcC r)) (hn : n ≤ 1048576) (hbase : base ≤ w.heap.size)
    (h : ∀ v' w', w'.ownsRow base 29 4 v' (n + 1) (FL (xs ++ [r])) → w.grownBy w' v.ownBlock → wpList Try.prog ops Q rest (a.put o.dst v') w') :
    wpList Try.prog ops Q (o :: rest) a w := by
  obtain ⟨i0, hi, hz0, hz1, hz2⟩ := info_parts (show (Try.prog.info? 29).map (fun i => (i.zero, i.size, i.bytes)) = some (some (rcV 0 0 0 0), 4, 32) by kernel_rfl)
  refine wpList_append_own_at w hgd s x 24 ho base 29 i0 (rcV 0 0 0 0) 4 32 Try.underlying24 hi hz0 hz1 hz2 rfl (by decide) v n (FL xs) hs hown ⟨g, 0, none⟩ 1 c (FL [r]) hx rfl (fun j u hj => ?_) (FL_oneZ _) (by unfold maxLen; omega) (by omega) hbase ?_
  · have hj4 : j < 4 := by
      have := (List.getElem?_eq_some_iff.1 hj).1
      simpa [FL] using this
    rw [Addr.add_lit, show (0 : Nat) + j = j by omega, A.cell j]
    exact hj
  · intro v' w' h1 h2 _ _
    exact h v' w' (by rw [FL_app]; exact h1) h2
theorem own_p {w W W' : World} {p t n : Nat} {v : Value} {xs : List Value} (h : W.ownsRow w.heap.size t 4 v n xs) (hp : p < w.heap.size) (hg : W.grownBy W' (some p)) : W'.ownsRow w.heap.size t 4 v n xs :=
  h.kept hg (by
    cases hv : v.ownBlock with
    | none => exact .inl rfl
    | some j => exact .inr (fun e => by have := (World.ownsRow.lt h j hv).1; injection e with e; omega))
theorem Dz0.own {w W W' : World} {p : Nat} {a : Option Addr} {n c t m : Nat} {v : Value} {xs : List Value} (h : Dz0 w W p a n c) (hp : p < w.heap.size) (ho : W.ownsRow w.heap.size t 4 v m xs) (hg : W.grownBy W' v.ownBlock) : Dz0 w W' p a n c :=
  ⟨cur_keep h.cu hg (fun e => by have := (World.ownsRow.lt ho p e).1; omega), grown_into h.gr hg (fun k hk => .inl (World.ownsRow.lt ho k hk).1)⟩
theorem curList (p : Nat) (a : Option Addr) (n c : Nat) (xs : List Int) (w : World) (hcur : Cur w p a n c) (hcode : Coded w p a n c xs) :
    Calls Try.prog 53 #[.pointer (some ⟨p, 0, none⟩)] w fun e w' => ∃ (L : List Rc) (v : Value), e = .returned v ∧ w'.ownsRow w.heap.size 29 4 v L.length (FL L) ∧ (∀ r ∈ L, r.Ok) ∧ 2 ≤ L.length ∧ L.length ≤ 10 ∧ Cur w' p a n c ∧ w.grownBy w' (some p) := by
  have hp0 := cur_lt hcur
  have D : Dz0 w w p a n c := ⟨hcur, World.grownBy.refl _ _⟩
  go_enter Try.func53, Try.ntmps53
  go_wp2_with fail
  refine (curBelow p a n c xs _ _ D.cu (hcode.grown D.gr) (by omega)).mono ?_
  rintro e w_x ⟨x, rfl, h0_x, h1_x, _, hc, hg⟩
  replace h1_x := h1_x (by omega)
  replace D := D.draw hc hg
  clear hc hg
  go_wp2_with fail
  refine (curBelow p a n c xs _ _ D.cu (hcode.grown D.gr) (by omega)).mono ?_
  rintro e w_y ⟨y, rfl, h0_y, h1_y, _, hc, hg⟩
  replace h1_y := h1_y (by omega)
  replace D := D.draw hc hg
  clear hc hg
  go_wp2_with fail
  refine (curBelow p a n c xs _ _ D.cu (hcode.grown D.gr) (by omega)).mono ?_
  rintro e w_z ⟨z, rfl, h0_z, h1_z, _, hc, hg⟩
  replace h1_z := h1_z (by omega)
  replace D := D.draw hc hg
  clear hc hg
  go_wp2_with fail
  refine (curBelow p a n c xs _ _ D.cu (hcode.grown D.gr) (by omega)).mono ?_
  rintro e w_u ⟨u, rfl, h0_u, h1_u, _, hc, hg⟩
  replace h1_u := h1_u (by omega)
  replace D := D.draw hc hg
  clear hc hg
  obtain ⟨X, hX⟩ : ∃ X, X = w_u.alloc (.cells #[.int .i64 1, .int .i64 0, .int .i64 (1 + x), .int .i64 0, .int .i64 2, .int .i64 y, .int .i64 (1 + z), .int .i64 u] 29) := ⟨_, rfl⟩
  obtain ⟨L0, hL0⟩ : ∃ L0 : List Rc, L0 = [⟨1, 0, 1 + x, 0⟩, ⟨2, y, 1 + z, u⟩] := ⟨_, rfl⟩
  have hok : ∀ r ∈ L0, r.Ok := by
    intro r hr
    rw [hL0] at hr
    simp at hr
    rcases hr with rfl | rfl
    · exact .inl ⟨rfl, rfl, by dsimp only; omega, rfl⟩
    · exact .inr (.inl ⟨rfl, by dsimp only; omega, by dsimp only; omega, by dsimp only; omega⟩)
  have hl0 : L0.length = 2 := by rw [hL0]; rfl
  have HO0 : Hid (X.ownsRow w.heap.size 29 4 (.slice (some ⟨w_u.heap.size, 0, none⟩) 2 2) L0.length (FL L0)) := by
    unfold Hid
    rw [hX, hL0]
    exact World.ownsRow_lit w_u #[.int .i64 1, .int .i64 0, .int .i64 (1 + x), .int .i64 0, .int .i64 2, .int .i64 y, .int .i64 (1 + z), .int .i64 u] 2 D.gr.size (by unfold maxLen; omega) rfl
  have DX : Dz0 w X p a n c := by rw [hX]; exact D.alloc _
  go_upto_region 2 with fail
  rw [← hX]
  clear hX hL0 D
  go_wp2_with fail
  refine (curBelow p a n c xs _ _ DX.cu (hcode.grown DX.gr) (by omega)).mono ?_
  rintro e w_N ⟨N, rfl, h0_N, h1_N, _, hc, hg⟩
  replace h1_N := h1_N (by omega)
  replace DX := DX.draw hc hg
  have HOX := own_p HO0.out hp0 hg
  clear hc hg
  replace HO0 : Hid (w_N.ownsRow w.heap.size 29 4 (.slice (some ⟨w_u.heap.size, 0, none⟩) 2 2) L0.length (FL L0)) := HOX
  obtain ⟨M, rfl⟩ := Int.eq_ofNat_of_zero_le h0_N
  go_wp2
  go_loopw [3, 5] (fun v i wr => ∃ (k : Nat) (L : List Rc), k ≤ M ∧ i = .int .i64 k ∧ Hid (wr.ownsRow w.heap.size 29 4 v L.length (FL L)) ∧ L.length = k + 2 ∧ Hid (∀ r ∈ L, r.Ok) ∧ Dz0 w wr p a n c) (fun _ i _ => M - (intOf i).toNat)
  case atStart => exact ⟨0, L0, by omega, rfl, HO0, by omega, hok, DX⟩
  case round =>
    clear HO0 hok DX hl0
    obtain ⟨k, L, hk, rfl, HO, hl, HK, D⟩ := hrel
    by_cases hlt : (k : Int) < (M : Int)
    · go_wp2_with fail
      refine (curRec p a n c xs _ D.cu (hcode.grown D.gr)).mono ?_
      rintro e w2 ⟨⟨rk, rb, rn, rf⟩, rfl, _, hr, hc, hg⟩
      replace D := D.draw hc hg
      replace HO : Hid (w2.ownsRow w.heap.size 29 4 u3 L.length (FL L)) := own_p HO.out hp0 hg
      have HR : Hid (∀ r ∈ L ++ [⟨rk, rb, rn, rf⟩], r.Ok) := by
        intro r h
        rw [List.mem_append] at h
        rcases h with h | h
        · exact HK.out r h
        · simp at h; rw [h]; exact hr
      dsimp only
      clear hc hg hr HK
      go_wp2_with (at_builtin; refine wpl_app_rc rfl _ _ rfl w.heap.size u3 L.length L rfl w2.heap.size 1 ⟨rk, rb, rn, rf⟩ rfl (World.ownsRow.alloc HO.out _) (Arr.new w2 [.int .i64 rk, .int .i64 rb, .int .i64 rn, .int .i64 rf] 29) (by omega) (Nat.le_trans D.gr.size (by simp)) ?_)
      intro v3 w3 o3 g3
      have HN : Hid (w3.ownsRow w.heap.size 29 4 v3 (L ++ [(⟨rk, rb, rn, rf⟩ : Rc)]).length (FL (L ++ [(⟨rk, rb, rn, rf⟩ : Rc)]))) := by
        unfold Hid
        rw [List.length_append, hl]
        exact o3
      have D3 : Dz0 w w3 p a n c := (D.alloc _).own hp0 (World.ownsRow.alloc HO.out _) g3
      have hl3 : (L ++ [(⟨rk, rb, rn, rf⟩ : Rc)]).length = k + 1 + 2 := by rw [List.length_append, hl]; rfl
      obtain ⟨L3, hL3⟩ : ∃ L3, L3 = L ++ [(⟨rk, rb, rn, rf⟩ : Rc)] := ⟨_, rfl⟩
      rw [← hL3] at HN HR hl3
      clear hL3 o3 g3 D HO
      go_wp2
      go_roundw
      case rel => exact ⟨k + 1, L3, by omega, by go_num, HN, hl3, HR, D3⟩
      case measure => simp [intOf]; omega
    · have hkn : k = M := by omega
      subst hkn
      go_wp2
      go_ret
      exact ⟨L, _, rfl, HO.out, HK.out, by omega, by omega, D.cu, D.gr⟩
end Go.Proofs.Ytjceajgefpinpaa
namespace Go.Proofs.Ytjceajgefpinpaa
open Go.RowKit
set_option maxRecDepth 100000
set_option maxHeartbeats 4000000
set_option linter.unusedVariables false

/-- A row of records behind an offset in a block that is not older than lo. -/
structure Sw (W : World) (lo : Nat) (g o n cap : Nat) (L : List Rc) : Prop where
  lo : lo ≤ g
  lt : g < W.heap.size
  len : L.length = n
  le : n ≤ cap
  max : cap ≤ maxLen
  holds : ∀ j, j < n * 4 → W.cell? ⟨g, o + j, none⟩ = (FL L)[j]?
  there : ∀ j, j < cap * 4 → (W.cell? ⟨g, o + j, none⟩).isSome = true ∧ W.frozen? ⟨g, o + j, none⟩ = false
section
variable {W W' : World} {lo g o n cap : Nat} {L : List Rc}
theorem Sw.kept (h : Sw W lo g o n cap L) {row : Option Nat} (hg : W.grownBy W' row) (hne : some g ≠ row) : Sw W' lo g o n cap L := by
  have e := hg.block g h.lt hne
  exact ⟨h.lo, Nat.lt_of_lt_of_le h.lt hg.size, h.len, h.le, h.max, fun j hj => (World.cell?_of_block (a := ⟨g, o + j, none⟩) e).trans (h.holds j hj),
    fun j hj => ⟨by rw [World.cell?_of_block (a := ⟨g, o + j, none⟩) e]; exact (h.there j hj).1, (World.frozen?_of_block (a := ⟨g, o + j, none⟩) e).trans (h.there j hj).2⟩⟩
theorem Sw.of {v : Value} {t : TypeId} (h : W.ownsRow lo t 4 v n (FL L)) (hn : 0 < n) : ∃ g cap, v = .slice (some ⟨g, 0, none⟩) n cap ∧ Sw W lo g 0 n cap L := by
  have hl := rq_len h
  rcases h.2 with ⟨_, rfl⟩ | ⟨g, cap, cur, rfl, hg, hgg, h1, h2, h3, h4⟩
  · omega
  · refine ⟨g, cap, rfl, hg, (Array.getElem?_eq_some_iff.1 hgg).1, hl, h1, h2, fun j hj => ?_, fun j hj => ?_⟩
    · rw [cell_of_row W g (0 + j) cur t (0, 0) hgg, Nat.zero_add, ← h4, List.getElem?_take, if_pos hj]
      simp
    · rw [cell_of_row W g (0 + j) cur t (0, 0) hgg, Nat.zero_add]
      refine ⟨by rw [Array.getElem?_eq_getElem (by omega)]; rfl, ?_⟩
      simp [World.frozen?, hgg]
theorem Sw.rs (h : Sw W lo g o n cap L) : Rs W (some ⟨g, o, none⟩) n cap L := by
  refine ⟨(fun h => by cases h), h.len, h.le, .inr ⟨g, o, rfl, h.lt, fun i hi => ?_⟩⟩
  have hl := h.len
  obtain ⟨a, b, c, d⟩ := FL_get L i (by omega)
  exact ⟨(h.holds (i * 4) (by omega)).trans a, (h.holds (i * 4 + 1) (by omega)).trans b, (h.holds (i * 4 + 2) (by omega)).trans c, (h.holds (i * 4 + 3) (by omega)).trans d⟩
theorem FL_tail : ∀ (L : List Rc) (j : Nat), (FL L.tail)[j]? = if L = [] then none else (FL L)[4 + j]?
  | [], j => by simp [FL]
  | r :: t, j => by
    rw [if_neg (by simp), show 4 + j = j + 4 by omega]
    rfl
theorem Sw.tail (h : Sw W lo g o n cap L) (hn : 0 < n) : Sw W lo g (o + 4) (n - 1) (cap - 1) L.tail := by
  have hl := h.len
  have hle := h.le
  have hmax := h.max
  refine ⟨h.lo, h.lt, by rw [List.length_tail, hl], by omega, by omega, fun j hj => ?_, fun j hj => ?_⟩
  · rw [FL_tail, if_neg (by intro e; rw [e] at hl; simp at hl; omega), Nat.add_assoc]
    exact h.holds (4 + j) (by omega)
  · rw [Nat.add_assoc]
    exact h.there (4 + j) (by omega)
end
theorem grown_set {w W : World} {g : Nat} (h : w.grownBy W (some g)) (k : Nat) (v : Value) : w.grownBy (W.setCell ⟨g, k, none⟩ v) (some g) := grown_into h (cur_grown2 W g v k) (fun j hj => .inr (by injection hj with hj; exact hj.symm))
theorem wpl_app_sw {w : World} {ops : Array Oper} {rest : List Oper} {o' : Oper} {a : Act} {Q : Exit → Act → World → Prop} (hgd : o'.guard = none) (s x : Operand)
    (ho : o'.op = .call { callee := .builtin .append, args := #[s, x], argTypes := #[24, 24] })
    (lo g o n cap : Nat) (L : List Rc) (hs : a.eval s = .slice (some ⟨g, o, none⟩) n cap) (g2 c : Nat) (r : Rc) (hx : a.eval x = .slice (some ⟨g2, 0, none⟩) 1 c)
    (hown : Sw w lo g o n cap L) (A : Arr w g2 29 (rcC r)) (hn : n ≤ 1048576)
    (h : ∀ g' o'' cap' w', Sw w' lo g' o'' (n + 1) cap' (L ++ [r]) → w.grownBy w' (some g) → wpList Try.prog ops Q rest (a.put o'.dst (.slice (some ⟨g', o'', none⟩) (n + 1) cap')) w') :
    wpList Try.prog ops Q (o' :: rest) a w := by
  obtain ⟨i0, hi, hz0, hz1, hz2⟩ := info_parts (show (Try.prog.info? 29).map (fun i => (i.zero, i.size, i.bytes)) = some (some (rcV 0 0 0 0), 4, 32) by kernel_rfl)
  have hnews : ∀ j u, (FL [r])[j]? = some u → w.cell? ((⟨g2, 0, none⟩ : Addr).add j) = some u := fun j u hj => by
    have hj4 : j < 4 := by
      have := (List.getElem?_eq_some_iff.1 hj).1
      simpa [FL] using this
    rw [Addr.add_lit, show (0 : Nat) + j = j by omega, A.cell j]
    exact hj
  have hl := hown.len
  have hFL : (FL L).length = n * 4 := by rw [FL_len, hl]
  suffices hk : ∃ g' o'' cap' w', (Builtin.append_ #[24, 24] o'.type #[.slice (some ⟨g, o, none⟩) n cap, .slice (some ⟨g2, 0, none⟩) 1 c]).run Try.prog w = .ok (.slice (some ⟨g', o'', none⟩) (n + 1) cap') w' ∧ Sw w' lo g' o'' (n + 1) cap' (L ++ [r]) ∧ w.grownBy w' (some g) by
    obtain ⟨g', o'', cap', w', hr, h1, h2⟩ := hk
    refine wpList_plain hgd fun K hK => ?_
    unfold Oper.wp execOp
    simp only [ho, resolve, invoke, builtin, Sem.run_bind, Sem.run_pure, Result.andThen_ok, List.map_toArray, List.map_cons, List.map_nil, hs, hx, hr]
    exact hK _ _ (h g' o'' cap' w' h1 h2)
  by_cases hroom : n + 1 ≤ cap
  · have hst : ∀ j, j < cap * 4 → (w.cell? ⟨g, o + j, none⟩).isSome = true ∧ w.frozen? ⟨g, o + j, none⟩ = false := hown.there
    have hr := run_append_room_cells (P := Try.prog) w 24 o'.type 29 i0 Try.underlying24 hi g o n cap ⟨g2, 0, none⟩ 1 c (FL [r]) (by rw [hz1]; rfl) hnews (FL_oneZ _) hroom
      (fun j hj => by rw [hz1, Nat.add_assoc]; exact (hst (n * 4 + j) (by have : j < 4 := hj; omega)).1) (fun j hj => by rw [hz1, Nat.add_assoc]; exact (hst (n * 4 + j) (by have : j < 4 := hj; omega)).2)
    rw [hz1] at hr
    refine ⟨g, o, cap, _, hr, ⟨hown.lo, ?_, by simp [hl], hroom, hown.max, fun j hj => ?_, fun j hj => ⟨?_, ?_⟩⟩, ?_⟩
    · show g < (w.setCells g (o + n * 4) [_, _, _, _]).heap.size
      simp only [World.setCells, World.size_setCell]
      exact hown.lt
    · rw [FL_app]
      by_cases hj2 : j < n * 4
      · rw [World.cell?_setCells_out g _ _ _ _ (fun _ _ => .inl (by show o + j < o + n * 4; omega)), List.getElem?_append_left (by omega)]
        exact hown.holds j hj2
      · have ht : j - n * 4 < (FL [r]).length := by show j - n * 4 < 4; omega
        have := World.cell?_setCells_in g (FL [r]) (o + n * 4) w (fun q hq => by rw [Nat.add_assoc]; exact (hst (n * 4 + q) (by have : q < 4 := hq; omega)).1) (j - n * 4) ht
        rw [show o + n * 4 + (j - n * 4) = o + j by omega] at this
        rw [this, List.getElem?_append_right (by omega), hFL, List.getElem?_eq_getElem ht]
    · by_cases hin : n * 4 ≤ j ∧ j < n * 4 + 4
      · have ht : j - n * 4 < (FL [r]).length := by show j - n * 4 < 4; omega
        have := World.cell?_setCells_in g (FL [r]) (o + n * 4) w (fun q hq => by rw [Nat.add_assoc]; exact (hst (n * 4 + q) (by have : q < 4 := hq; omega)).1) (j - n * 4) ht
        rw [show o + n * 4 + (j - n * 4) = o + j by omega] at this
        rw [this]
        rfl
      · rw [World.cell?_setCells_out g _ _ _ _ (fun _ _ => by show o + j < o + n * 4 ∨ o + n * 4 + 4 ≤ o + j; omega)]
        exact (hst j hj).1
    · exact (World.frozen?_setCells g _ _ _ _).trans (hst j hj).2
    · exact grown_set (grown_set (grown_set (grown_set (World.grownBy.refl w _) _ _) _ _) _ _) _ _
  · obtain ⟨v', w', hr, h1, h2⟩ := run_append_arg_grows (P := Try.prog) w 24 o'.type 29 i0 (rcV 0 0 0 0) 4 32 Try.underlying24 hi hz0 hz1 hz2 rfl (by decide) ⟨g, o, none⟩ n cap (FL L) hFL
      (fun j u hu => by
        have := (List.getElem?_eq_some_iff.1 hu).1
        rw [Addr.add_lit]
        exact (hown.holds j (by omega)).trans hu)
      ⟨g2, 0, none⟩ 1 c (FL [r]) rfl hnews (by omega) (by unfold maxLen; omega) (by omega)
    rw [← FL_app] at h1
    obtain ⟨g', cap', rfl, h3⟩ := Sw.of h1 (by omega)
    have hlo := hown.lo
    have hlt := hown.lt
    exact ⟨g', 0, cap', w', hr, ⟨by have := h3.lo; omega, h3.lt, h3.len, h3.le, h3.max, h3.holds, h3.there⟩, ⟨h2.os, h2.tape, h2.output, h2.size, fun k hk _ => h2.block k hk (by simp)⟩⟩
end Go.Proofs.Ytjceajgefpinpaa
namespace Go.Proofs.Ytjceajgefpinpaa
open Go.RowKit

theorem wr64 {x : Int} (h : -9223372036854775808 ≤ x) (h1 : x ≤ 9223372036854775807) : IntKind.i64.wrap x = x := by simp [IntKind.wrap, IntKind.signed, IntKind.bits]; omega
end Go.Proofs.Ytjceajgefpinpaa

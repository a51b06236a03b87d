/-
  What is proved here: an append onto a row of bytes that the call itself owns, as a step of a; the contract of the specification's DrawVerify: three slices of bytes; contracts of the library's errors.Is at the program's faults and at none; the contract of the program's Verify; what a row's list of laid variables gives the walks, that the named.
-/
import Derived.Test.YtihoaakbkffejaaGreatDoorFFm
import Derived.Deep.AppendLies
import Derived.Test.YtihoaakbkffejaaGreatDoorFVt
import Derived.Test.YtihoaakbkffejaaGreatDoorFJrd
import Derived.Test.YtihoaakbkffejaaGreatDoorFVk
import Derived.Test.YtihoaakbkffejaaGreatDoorFFsc
import Derived.WalkKit
import Derived.LaidEql
import Derived.Stop.Asserts
import Derived.RowKitTokens
import Derived.Test.YtihoaakbkffejaaGreatDoorRows
import Derived.Test.YtihoaakbkffejaaGreatDoorFJg
import Derived.Test.YtihoaakbkffejaaGreatDoorFUc
import Derived.ProofKit
import Derived.LaidMore
import Derived.OpenShut
import Derived.Stop.Joined
import Derived.Lib.LaidTab
import Derived.ChangeOld
import Derived.ChangeSame
import Derived.Below
namespace Go.Proofs.YtihoaakbkffejaaGreatDoor
set_option maxRecDepth 100000
open Go.RowKit

theorem step_append_bs {w : World} {ops : Array Oper} {o : Oper} {a : Act} {K : Act → World → Prop} {Q : Exit → Act → World → Prop} {E : Prop} (hgd : o.guard = none) (s x : Operand)
  (ho : o.op = .call { callee := .builtin .append, args := #[s, x], argTypes := #[22, 22] })
  (base : Nat) (v : Value) (n : Nat) (xs : List Int) (hs : a.eval s = v) (ad : Addr) (m c : Nat) (ys : List Int) (hx : a.eval x = .slice (some ad) m c)
  (hown : w.ownsRow base 5 1 v n (U8 xs)) (hb : Bs w (some ad) m c ys) (hlen : n + m ≤ 1099511627776) (hbase : base ≤ w.heap.size)
  (h : ∀ v' w', w'.ownsRow base 5 1 v' (n + m) (U8 (xs ++ ys)) → w.grownBy w' v.ownBlock → (v'.ownBlock = v.ownBlock ∨ v'.ownBlock = some w.heap.size) → K (a.put o.dst v') w') :
  if Region.wanted o (yielded ops a.tmps) = true then Oper.wp Tryz.prog o a w K Q else E := by
 obtain ⟨i0, hi, hz0, hz1, hz2⟩ := info_parts Tryz.info5
 obtain ⟨_, hl, hc, _, hb⟩ := hb
 have hw : Region.wanted o (yielded ops a.tmps) = true := by simp [Region.wanted, hgd]
 rw [if_pos hw]
 have hnews : ∀ j u, (U8 ys)[j]? = some u → w.cell? (ad.add j) = some u := by
  rcases hb with hb | ⟨b, off, ha, _, hcell⟩
  ·intro j u hj
   have hy : ys = [] := List.eq_nil_of_length_eq_zero (by omega)
   subst hy
   simp at hj
  ·obtain rfl := Option.some.inj ha
   intro j u hj
   have hjl : j < m := by
    have := (List.getElem?_eq_some_iff.1 hj).1
    simpa [hl] using this
   rw [Addr.add_lit, hcell j hjl]
   have e : (U8 ys)[j]? = some (.int .u8 (ys.getD j 0)) := by simp [show j < ys.length by omega]
   rw [e] at hj
   exact hj
 obtain ⟨v', w', hr, h2, h3, _, h5⟩ := run_append_own_at (P := Tryz.prog) w base 22 o.type 5 i0 (.int .u8 0) 1 1 Tryz.underlying22 hi hz0 hz1 hz2 rfl (by decide) v n (U8 xs) hown ad m c (U8 ys) (by simp [hl]) hnews (ints_oneCell _ _)
  (by unfold maxLen; omega) (by omega) hbase
 unfold Oper.wp execOp
 simp only [ho, resolve, invoke, builtin, Sem.run_bind, Sem.run_pure, Result.andThen_ok, List.map_toArray, List.map_cons, List.map_nil, hs, hx, hr]
 exact h v' w' (by simpa using h2) h3 h5
theorem made_below {w w' : World} (hg : (w.drew.alloc (.cells #[] 5)).grownBy w' (Value.ownBlock (.slice (some ⟨w.heap.size, 0, none⟩) 0 0))) : Below w.heap.size w w' :=
 ((Below.refl _ _).drew.alloc (Nat.le_refl _) _).grown hg (by simp) (fun k hk => by have e : w.heap.size = k := Option.some.inj hk; rw [← e]; exact Nat.le_refl _)
structure Rwz (W : World) (lo hi : Nat) (v : Value) (n : Nat) (l : List Int) : Prop where
  own : W.ownsRow lo 5 1 v n (U8 l)
  up : ∀ k, v.ownBlock = some k → k < hi
  byt : ∀ x ∈ l, 0 ≤ x ∧ x < 256
section
variable {W W' : World} {lo hi n : Nat} {v : Value} {l : List Int}
theorem Rwz.new (h : W.ownsRow lo 5 1 v n (U8 l)) (hb : ∀ x ∈ l, 0 ≤ x ∧ x < 256) : Rwz W lo W.heap.size v n l := ⟨h, fun k hk => (h.lt k hk).2, hb⟩
theorem Rwz.far {r : Option Nat} (h : Rwz W lo hi v n l) (hg : W.grownBy W' r) (hr : ∀ k, r = some k → k < lo ∨ hi ≤ k) : Rwz W' lo hi v n l :=
  ⟨h.own.kept hg (by
    cases hv : v.ownBlock with
    | none => exact .inl rfl
    | some k => exact .inr (fun e => by have := h.up k hv; have := (h.own.lt k hv).1; have := hr k e.symm; omega)), h.up, h.byt⟩
theorem Rwz.bel (h : Rwz W lo hi v n l) (hb : Below W.heap.size W W') : Rwz W' lo hi v n l := ⟨own_below h.own hb, h.up, h.byt⟩
theorem Rwz.bs (h : Rwz W lo hi v n l) : ∃ a c, v = .slice a n c ∧ Bs W a n c l := by
  obtain ⟨a, c, rfl, _, hB⟩ := Bs.own h.own h.byt
  exact ⟨a, c, rfl, hB⟩
end
theorem bel_gr {W W' : World} (h : Below W.heap.size W W') (r : Option Nat) : W.grownBy W' r := ⟨h.os, h.tape, h.output, h.size, fun k hk _ => h.block k hk⟩
theorem Dw.calm {w W W' : World} {a : Option Addr} {n c : Nat} (h : Dw w W a n c) (hb : Below W.heap.size W W') : Dw w W' a n c :=
  ⟨h.fr.trans (hb.mono h.fr.size), cur_keep h.cur (bel_gr hb none) (by simp)⟩
theorem some_one {p k : Nat} (h : some p = some k) : p = k := Option.some.inj h
def Dv (w W : World) (v1 v2 v3 : Value) : Prop :=
  ∃ a1 n1 c1 l1 a2 n2 c2 l2 a3 n3 c3 l3, v1 = .slice a1 n1 c1 ∧ v2 = .slice a2 n2 c2 ∧ v3 = .slice a3 n3 c3 ∧ Bs W a1 n1 c1 l1 ∧ n1 ≤ 64 ∧ Bs W a2 n2 c2 l2 ∧ n2 ≤ 12 ∧ Bs W a3 n3 c3 l3 ∧ n3 ≤ 64 ∧ Below w.heap.size w W
theorem dv_of {w W : World} {v1 v2 v3 : Value} {p1 q1 n1 p2 q2 n2 p3 q3 n3 : Nat} {l1 l2 l3 : List Int} (h1 : Rwz W p1 q1 v1 n1 l1) (m1 : n1 ≤ 64) (h2 : Rwz W p2 q2 v2 n2 l2) (m2 : n2 ≤ 12) (h3 : Rwz W p3 q3 v3 n3 l3) (m3 : n3 ≤ 64) (hb : Below w.heap.size w W) : Dv w W v1 v2 v3 := by
  obtain ⟨a1, c1, rfl, b1⟩ := h1.bs
  obtain ⟨a2, c2, rfl, b2⟩ := h2.bs
  obtain ⟨a3, c3, rfl, b3⟩ := h3.bs
  exact ⟨_, _, _, _, _, _, _, _, _, _, _, _, rfl, rfl, rfl, b1, m1, b2, m2, b3, m3, hb⟩

set_option maxHeartbeats 8000000 in
theorem drawVerify (a : Option Addr) (n c : Nat) (xs : List Int) (w : World) (h : Bs w a n c xs) (hm : n ≤ 9223372036854775807) :
    Calls Tryz.prog 14 #[.slice a n c] w fun e w' => ∃ v1 v2 v3, e = .returned (.tuple #[v1, v2, v3]) ∧ Dv w w' v1 v2 v3 := by
  go_enter Tryz.func14, Tryz.ntmps14
  go_wp2_with fail
  refine (curNew a n c xs _ h hm).mono ?_
  rintro e w1 ⟨rfl, hc1, hd1, hs1, hb1⟩
  have D1 : Dw w w1 a n c := ⟨hb1, hc1⟩
  clear hc1 hs1 hb1
  go_wp2_with fail
  refine (curBelow w.heap.size a n c xs _ _ D1.cur hd1 (by omega)).mono ?_
  rintro e w2 ⟨N, rfl, hN0, hN1, _, c2, g2⟩
  have hN2 := hN1 (by omega)
  have D2 := D1.draw c2 g2
  clear hN1 c2 g2 D1 hd1
  go_wp2_with fail
  refine (curMsg w.heap.size a n c xs _ D2.cur (coded_of h hm D2.fr)).mono ?_
  rintro e w3 ⟨vm, ms, rfl, hms, A⟩
  have lo2 := D2.lt
  have D3 := D2.draw A.cur A.gr
  have Rm := Rwz.new A.own A.byt
  have lo3 := A.gr.size
  clear A D2
  go_wp2_with fail
  refine (specSeed N _ hN0 (by omega)).mono ?_
  rintro e w4 ⟨g4, s4, rfl, i4, b4⟩
  have D4 := D3.calm b4
  replace Rm := Rm.bel b4
  have lo4 := b4.size
  clear b4 D3
  go_wp2_with fail
  refine (specPubOf _ 32 32 s4 _ i4).mono ?_
  rintro e w5 ⟨vp, rfl, o5, b5⟩
  have D5 := D4.calm b5
  have Rp := Rwz.new o5 (pbL_byte s4)
  replace Rm := Rm.bel b5
  have lp := pbL_len s4
  have lo5 := b5.size
  obtain ⟨pb, hpb⟩ : ∃ p, p = pbL s4 := ⟨_, rfl⟩
  obtain ⟨bo, hbo⟩ : ∃ p, p = pbOk s4 := ⟨_, rfl⟩
  rw [← hpb] at Rp lp
  rw [← hbo]
  clear b5 D4 o5 i4 hpb hbo
  go_wp2_with fail
  refine (specSeed N _ hN0 (by omega)).mono ?_
  rintro e w6 ⟨g6, s6, rfl, i6, b6⟩
  have D6 := D5.calm b6
  replace Rm := Rm.bel b6
  replace Rp := Rp.bel b6
  have lo6 := b6.size
  clear b6 D5
  obtain ⟨am, cm, rfl, im⟩ := Rm.bs
  go_wp2_with fail
  refine (specL7sign _ 32 s6 am _ cm ms _ i6 im (by omega)).mono ?_
  rintro e w7 ⟨vs, rfl, o7, b7⟩
  have D7 := D6.calm b7
  replace Rm := Rm.bel b7
  replace Rp := Rp.bel b7
  have Rs := Rwz.new o7 (sgB_byte s6 ms)
  have lo7 := b7.size
  have ls := sgB_len s6 ms
  obtain ⟨sg, hsg⟩ : ∃ p, p = sgB s6 ms := ⟨_, rfl⟩
  rw [← hsg] at Rs ls
  clear b7 D6 o7 i6 im hsg
  go_wp2_with fail
  refine (curOnce w.heap.size a n c xs 2 _ D7.cur (coded_of h hm D7.fr) (by omega)).mono ?_
  rintro e w8 ⟨q, rfl, c8, g8⟩
  have D8 := D7.draw c8 g8
  replace Rm := Rm.far g8 (fun k hk => .inl (by have := some_one hk; omega))
  replace Rp := Rp.far g8 (fun k hk => .inl (by have := some_one hk; omega))
  replace Rs := Rs.far g8 (fun k hk => .inl (by have := some_one hk; omega))
  have lo8 := g8.size
  clear D7 c8 g8
  go_upto_if 32 with fail
  go_cut [7, 8, 10] from 33 (fun s7 s8 s10 wc => Dv w wc s8 s7 s10)
  case first =>
    cases q with
    | false =>
      go_wp2
      go_meet
      case rel => exact dv_of Rp lp Rm (by omega) Rs (by omega) D8.fr
    | true =>
      go_wp2_with fail
      refine (curBelow w.heap.size a n c xs _ _ D8.cur (coded_of h hm D8.fr) (by omega)).mono ?_
      rintro e w9 ⟨x, rfl, hx0, hx1, _, c9, g9⟩
      have hx2 := hx1 (by omega)
      have D9 := D8.draw c9 g9
      replace Rm := Rm.far g9 (fun k hk => .inl (by have := some_one hk; omega))
      replace Rp := Rp.far g9 (fun k hk => .inl (by have := some_one hk; omega))
      replace Rs := Rs.far g9 (fun k hk => .inl (by have := some_one hk; omega))
      have lo9 := g9.size
      clear D8 c9 g9 hx1
      obtain ⟨gs, cs, rfl, is⟩ : ∃ g cap, vs = .slice (some ⟨g, 0, none⟩) 64 cap ∧ w6.heap.size ≤ g := by
        rcases Rs.own.2 with ⟨_, hv⟩ | ⟨g, cap, cu, hv, hg, _⟩
        · omega
        · exact ⟨g, cap, hv, hg⟩
      have hx6 : x = 0 ∨ x = 1 ∨ x = 2 ∨ x = 3 ∨ x = 4 ∨ x = 5 := by omega
      rcases hx6 with rfl | rfl | rfl | rfl | rfl | rfl
      · go_wp2_with (at_builtin; refine wpl_append_bs rfl _ _ rfl w2.heap.size _ ms.length ms rfl (some ⟨w9.heap.size, 0, none⟩) 1 1 [1] rfl (Rm.own.alloc _) (Bs.one _ _ (by omega) (by omega)) ?_ ?_ ?_)
        · omega
        · first | omega | (simp; omega)
        intro v' wa h1 h2 _
        have gA := grown_alloc w9 (.cells #[.int .u8 1] 5) none
        have hr : ∀ k, Value.ownBlock (.slice am ms.length cm) = some k → k < w4.heap.size ∨ w9.heap.size ≤ k := fun k hk => .inl (by have := Rm.up k hk; omega)
        have hr' : ∀ k, Value.ownBlock (.slice am ms.length cm) = some k → k < w6.heap.size ∨ w9.heap.size ≤ k := fun k hk => .inl (by have := Rm.up k hk; omega)
        have Rp' := (Rp.far gA (by intro k hk; cases hk)).far h2 (fun k hk => .inl (by have := Rm.up k hk; omega))
        have Rs' := (Rs.far gA (by intro k hk; cases hk)).far h2 (fun k hk => .inl (by have := Rm.up k hk; omega))
        have Rm' : Rwz wa w2.heap.size wa.heap.size v' (ms.length + 1) (ms ++ [1]) := Rwz.new (by simpa [U8] using h1) (app_byte Rm.byt (fun z hz => by simp at hz; omega))
        have fr := (D9.alloc (.cells #[.int .u8 1] 5)).fr.grown h2 (D9.alloc (.cells #[.int .u8 1] 5)).fr.size (fun k hk => by have := (Rm.own.lt k hk).1; omega)
        clear h1 h2 gA hr hr'
        go_wp2
        go_meet
        case rel => exact dv_of Rp' lp Rm' (by omega) Rs' (by omega) fr
      · go_wp2_with fail
        refine (curBelow w.heap.size a n c xs _ _ D9.cur (coded_of h hm D9.fr) (by omega)).mono ?_
        rintro e wa ⟨y, rfl, hy0, hy1, _, ca, ga⟩
        have hy2 := hy1 (by omega)
        have Da := D9.draw ca ga
        replace Rm := Rm.far ga (fun k hk => .inl (by have := some_one hk; omega))
        replace Rp := Rp.far ga (fun k hk => .inl (by have := some_one hk; omega))
        replace Rs := Rs.far ga (fun k hk => .inl (by have := some_one hk; omega))
        have loa := ga.size
        clear D9 ca ga hy1
        go_wp2_with fail
        refine (curByte w.heap.size a n c xs _ Da.cur (coded_of h hm Da.fr)).mono ?_
        rintro e wb ⟨z, rfl, hz0, hz1, cb, gb⟩
        have Db := Da.draw cb gb
        replace Rm := Rm.far gb (fun k hk => .inl (by have := some_one hk; omega))
        replace Rp := Rp.far gb (fun k hk => .inl (by have := some_one hk; omega))
        replace Rs := Rs.far gb (fun k hk => .inl (by have := some_one hk; omega))
        have lob := gb.size
        clear Da cb gb
        obtain ⟨J, rfl⟩ := Int.eq_ofNat_of_zero_le hy0
        have hcv : IntKind.u8.wrap z = z := by simp [IntKind.wrap, IntKind.signed, IntKind.bits]; omega
        obtain ⟨u, hu⟩ : ∃ x : Int, wb.cell? ⟨gs, J, none⟩ = some (.int .u8 x) := ⟨_, own_cell (K := .u8) Rs.own J (by omega)⟩
        have fz := Rs.own.frozenAt J
        have o2 := own_at Rs.own J (.int .u8 z)
        have gC := cur_grown2 wb gs (.int .u8 z) J
        have hgs := Rs.up gs rfl
        have Rm' := Rm.far gC (fun k hk => .inr (by have := some_one hk; omega))
        have Rp' := Rp.far gC (fun k hk => .inr (by have := some_one hk; omega))
        have Rs' : Rwz (wb.setCell ⟨gs, J, none⟩ (.int .u8 z)) w6.heap.size w7.heap.size (.slice (some ⟨gs, 0, none⟩) 64 cs) 64 (sg.set J z) := ⟨by simpa only [U8, List.map_set] using o2, Rs.up, fun y hy => by
          rcases List.mem_or_eq_of_mem_set hy with h | rfl
          · exact Rs.byt y h
          · omega⟩
        have fr := Db.fr.setCell (p := ⟨gs, J, none⟩) (show w.heap.size ≤ gs by omega) (.int .u8 z)
        clear o2 gC Rm Rp Rs Db
        go_wp2
        go_meet
        case rel => exact dv_of Rp' lp Rm' (by omega) Rs' (by omega) fr
      · go_wp2_with fail
        refine (specSeed (N + 1) _ (by omega) (by omega)).mono ?_
        rintro e wa ⟨ga, sa, rfl, ia, ba⟩
        go_wp2_with fail
        refine (specPubOf _ 32 32 sa _ ia).mono ?_
        rintro e wb ⟨vq, rfl, ob, bb⟩
        have Rq := Rwz.new ob (pbL_byte sa)
        have lq := pbL_len sa
        replace Rm := (Rm.bel ba).bel bb
        replace Rs := (Rs.bel ba).bel bb
        have fr := ((D9.calm ba).calm bb).fr
        obtain ⟨pq, hpq⟩ : ∃ p, p = pbL sa := ⟨_, rfl⟩
        obtain ⟨bo, hbo⟩ : ∃ p, p = pbOk sa := ⟨_, rfl⟩
        rw [← hpq] at Rq lq
        rw [← hbo]
        clear hpq hbo D9 ba bb ob ia Rp
        go_wp2
        go_meet
        case rel => exact dv_of Rq lq Rm (by omega) Rs (by omega) fr
      · obtain ⟨a', c', e', i'⟩ := Rs.bs
        obtain ⟨rfl, rfl⟩ : some ⟨gs, 0, none⟩ = a' ∧ cs = c' := by simp at e'; exact ⟨e'.1, e'.2⟩
        have hcs := i'.2.2.1
        have id := i'.dropW (m := 32) (by omega)
        have it := i'.takeW (m := 32) (by omega)
        obtain ⟨S, eS⟩ : ∃ S, S = rdL (sg.drop 32) := ⟨_, rfl⟩
        have lS : S.length = 16 := by rw [eS]; exact rdL_len _
        have kS : Lm S := by rw [eS]; exact rdL_lm (drop_byte Rs.byt 32)
        have HR : Hid (Calls Tryz.prog 51 #[.slice (some ⟨gs, 32, none⟩) 32 (cs - 32)] w9 fun e w' => e = .returned (.agg (I64 S).toArray) ∧ Below w9.heap.size w9 w') := by
          unfold Hid; rw [eS]; simp only [Nat.zero_add] at id; exact specRead16 _ _ _ _ id
        clear eS id e' i'
        have t1 : ((cs : Int) - 32).toNat = cs - 32 := by omega
        go_wp2_with fail
        refine HR.out.mono ?_
        rintro e wa ⟨rfl, ba⟩
        obtain ⟨bV, p1, q1⟩ := laid_e wa S
        have hwa := ba.size
        go_wp2_with (refine wpList_store_row rfl 80 _ _ rfl wa.heap.size (I64 S).toArray rfl rfl 80 _ q1 (infoV' lS) (by simp [lS]) (by simp [Value.oneCell']) ?_)
        obtain ⟨V, hV⟩ : ∃ V, V = (wa.alloc (.cells zV 80)).setRow wa.heap.size (I64 S).toArray := ⟨_, rfl⟩
        rw [← hV] at bV p1 ⊢
        have bV2 := ba.trans (bV.mono ba.size)
        obtain ⟨E, hE⟩ : ∃ E, E = wa.heap.size := ⟨_, rfl⟩
        rw [← hE] at p1 hwa ⊢
        clear hV hE q1 bV ba HR
        refine (specOrder _).mono ?_
        rintro e wb ⟨rfl, bb⟩
        replace p1 := p1.kept bb
        have hEF := p1.lt
        replace bV2 := bV2.trans (bb.mono bV2.size)
        obtain ⟨bV, p2, q2⟩ := laid_e wb OL
        go_wp2_with (refine wpList_store_row rfl 80 _ _ rfl wb.heap.size (I64 OL).toArray rfl rfl 80 _ q2 (infoV' OL_len) (by simp [OL_len]) (by simp [Value.oneCell']) ?_)
        obtain ⟨V2, hV⟩ : ∃ V, V = (wb.alloc (.cells zV 80)).setRow wb.heap.size (I64 OL).toArray := ⟨_, rfl⟩
        rw [← hV] at bV p2 ⊢
        replace p1 := p1.kept bV
        have bW := bV2.trans (bV.mono bV2.size)
        obtain ⟨F, hF⟩ : ∃ E, E = wb.heap.size := ⟨_, rfl⟩
        rw [← hF] at p2 hEF ⊢
        clear hV hF q2 bV bb bV2
        have HLO := OL_lm
        obtain ⟨Ol, hOl⟩ : ∃ l, l = OL := ⟨_, rfl⟩
        have lO : Ol.length = 16 := by rw [hOl]; exact OL_len
        rw [← hOl] at p2 HLO
        clear hOl
        go_wp2
        go_loopw [13, 14] (fun x i wr => ∃ (k : Nat) (X : Int) (s : List Int), k ≤ 16 ∧ i = .int .i64 k ∧ x = .int .i64 X ∧ (0 ≤ X ∧ X ≤ 2) ∧ s.length = 16 ∧ Hid (Lm s) ∧ Arr wr E 80 (I64 s) ∧ Arr wr F 80 (I64 Ol) ∧ Below w9.heap.size w9 wr) (fun _ i _ => 16 - (intOf i).toNat)
        case atStart => exact ⟨0, 0, S, by omega, rfl, rfl, by omega, lS, kS, p1, p2, bW⟩
        case round =>
          clear p1 p2 bW lS kS
          obtain ⟨k, X, s, hk, rfl, rfl, hX, lsn, HS, p1, p2, bW⟩ := hrel
          by_cases hlt : k < 16
          · obtain ⟨y, hy⟩ : ∃ x, x = s.getD k 0 := ⟨_, rfl⟩
            obtain ⟨z, hz⟩ : ∃ x, x = Ol.getD k 0 := ⟨_, rfl⟩
            have cy : wr.cell? ⟨E, k, none⟩ = some (.int .i64 y) := by rw [hy]; exact p1.i64 k (by omega)
            have cz : wr.cell? ⟨F, k, none⟩ = some (.int .i64 z) := by rw [hz]; exact p2.i64 k (by omega)
            have by' := gD_lm HS.out k
            have bz' := gD_lm HLO k
            rw [← hy] at by'
            rw [← hz] at bz'
            have s1 : IntKind.i64.wrap (X + y) = X + y := by rw [IntKind.wrap_i64]; omega
            have s2 : IntKind.i64.wrap (X + y + z) = X + y + z := by rw [IntKind.wrap_i64]; omega
            have s3 : bits .and .i64 (X + y + z) 65535 = (X + y + z) % 65536 := i64_low16 (by omega) (by omega)
            have hk16 : (k : Int) < 16 := by omega
            have hk0 : (0 : Int) ≤ (k : Int) := by omega
            have HL2 : Hid (Lm (s.set k ((X + y + z) % 65536))) := by
              unfold Hid; intro q hq
              rcases List.mem_or_eq_of_mem_set hq with h | rfl
              · exact HS.out q h
              · omega
            clear hy hz
            go_wp2
            go_quiet (fail)
            obtain ⟨wq, hq⟩ : ∃ Z, Z = wr.drewN nq := ⟨_, rfl⟩
            have q1 : Arr wq E 80 (I64 s) := by rw [hq]; exact p1
            have q2 : Arr wq F 80 (I64 Ol) := by rw [hq]; exact p2
            have bq : Below w9.heap.size w9 wq := by rw [hq]; exact ⟨bW.os, bW.tape, bW.output, bW.size, bW.block⟩
            rw [← hq]
            clear hq p1 p2 bW cy cz
            have cy : wq.cell? ⟨E, k, none⟩ = some (.int .i64 (s.getD k 0)) := q1.i64 k (by omega)
            have hfz := q1.frozen k
            have p1' := q1.set k (.int .i64 ((X + y + z) % 65536))
            have p2' := q2.other ⟨E, k, none⟩ (.int .i64 ((X + y + z) % 65536)) (show F ≠ E by omega)
            have bW' := bq.setCell (p := ⟨E, k, none⟩) (show w9.heap.size ≤ E by omega) (.int .i64 ((X + y + z) % 65536))
            have H1 : Hid (Arr (wq.setCell ⟨E, k, none⟩ (.int .i64 ((X + y + z) % 65536))) E 80 (I64 (s.set k ((X + y + z) % 65536)))) := by unfold Hid; simpa only [I64, List.map_set] using p1'
            have H2 : Hid _ := p2'
            have HB : Hid _ := bW'
            clear q1 q2 bq p1' p2' bW'
            go_wp2
            go_roundw
            case rel => exact ⟨k + 1, (X + y + z) / 65536, s.set k ((X + y + z) % 65536), by omega, by go_num, rfl, by omega, by simp [lsn], HL2, H1.out, H2.out, HB.out⟩
            case measure => simp [intOf]; omega
          · obtain rfl : k = 16 := by omega
            clear p2 hlt
            obtain ⟨Q, hQ⟩ : ∃ Q, Q = btL s := ⟨_, rfl⟩
            have hQl : Q.length = 32 := by rw [hQ, btL_len, lsn]
            have HQB : Hid (∀ x ∈ Q, 0 ≤ x ∧ x < 256) := by unfold Hid; rw [hQ]; exact btL_byte HS.out
            have HBY : Hid (∀ Z, Calls Tryz.prog 53 #[.agg (I64 s).toArray] Z fun e w' => ∃ g c, e = .returned (.slice (some ⟨g, 0, none⟩) 32 c) ∧ Bs w' (some ⟨g, 0, none⟩) 32 c Q ∧ Below Z.heap.size Z w') := by
              unfold Hid; intro Z; rw [hQ]; refine (specBytes16 s Z lsn HS.out).mono ?_
              rintro e w' ⟨v, rfl, ho, hb⟩
              rcases ho.2 with ⟨_, hv⟩ | ⟨g, cap, cu, hv, hg, _⟩
              · omega
              · subst hv; exact ⟨g, cap, rfl, bs_of_own ho (btL_byte HS.out), hb⟩
            clear hQ
            have hu : Tryz.prog.underlying 80 = some (.array 16 3) := Tryz.underlying80
            have his : (Tryz.prog.info? 80).map (·.size) = some (I64 s).length := by simpa [lsn] using infoE
            have it2 := (it.below bW).below (Below.refl _ _).drew
            have p1d := p1.drew
            have fr9 : Below w9.heap.size w9 wr := bW
            have hc32 : (32 : Int) ≤ (cs : Int) := by omega
            have HTB : Hid (∀ x ∈ sg.take 32, 0 ≤ x ∧ x < 256) := take_byte Rs.byt 32
            go_wp2
            go_region_held3 (fun W => W.rangeAt E 0 (I64 s))
              (first
                | exact arr_range p1d
                | exact arr_range (p1d.alloc _)
                | exact arr_range p3
                | exact arr_range p1x)
              (first
                | (refine step_append_bs rfl _ _ rfl wr.heap.size _ 32 (sg.take 32) rfl ⟨g2, 0, none⟩ 32 c2 Q rfl o1 i2 (by omega) (Nat.le_trans b1.size b2.size) ?_
                   intro v3 x3 o3 g3 _
                   have p3 : Arr x3 E 80 (I64 s) := (g3.block E p1x.lt (fun e => by have := (o1.lt E e.symm).1; have := p1.lt; omega)).trans p1x
                   have b3 : Below wr.heap.size wr x3 := (b1.trans (b2.mono b1.size)).grown g3 (b1.trans (b2.mono b1.size)).size (fun k hk => (o1.lt k hk).1))
                | (go_at_call 53
                   refine (HBY.out _).mono ?_
                   rintro e x2 ⟨g2, c2, rfl, i2, b2⟩
                   replace o1 := own_below o1 b2
                   replace p1x := p1x.kept b2)
                | (refine step_append_bs rfl _ _ rfl wr.heap.size _ 0 [] rfl ⟨gs, 0, none⟩ 32 cs (sg.take 32) rfl (World.ownsRow_lit (base := wr.heap.size) (e := 5) (size := 1) wr.drew #[] 0 (Nat.le_refl _) (by unfold maxLen; omega) rfl) (it2.below ((Below.refl _ _).alloc (Nat.le_refl _) _)) (by omega) (by simp) ?_
                   intro v1 x1 o1 g1 _
                   have b1 : Below wr.heap.size wr x1 := made_below g1
                   have p1x := p1.kept b1
                   simp only [Nat.zero_add, List.nil_append] at o1))
            have b9 := bW.trans (b3.mono bW.size)
            have Rq : Rwz x3 wr.heap.size x3.heap.size v3 (32 + 32) (sg.take 32 ++ Q) := Rwz.new (by simpa [U8] using o3) (app_byte HTB.out HQB.out)
            have fr := D9.fr.trans (b9.mono D9.fr.size)
            have Rp' := Rp.bel b9
            have Rm' := Rm.bel b9
            clear o3 g3 o1 g1 i2 b2 b1 p1x p3 b3 b9 Rp Rm Rs
            go_wp2
            go_meet
            case rel => exact dv_of Rp' lp Rm' (by omega) Rq (by omega) fr
      · obtain ⟨a', c', e', i'⟩ := Rs.bs
        obtain ⟨rfl, rfl⟩ : some ⟨gs, 0, none⟩ = a' ∧ cs = c' := by simp at e'; exact ⟨e'.1, e'.2⟩
        have hcs := i'.2.2.1
        have i63 := i'.takeW (m := 63) (by omega)
        have HI : Hid (Bs w9 (some ⟨gs, 0, none⟩) 63 _ (sg.take 63)) := i63
        clear i63 i' e'
        go_wp2
        go_meet
        case rel =>
          obtain ⟨a1, c1, rfl, b1⟩ := Rp.bs
          obtain ⟨a2, c2, e2, b2⟩ := Rm.bs
          exact ⟨_, _, _, _, _, _, _, _, _, _, _, _, rfl, e2, rfl, b1, lp, b2, by omega, HI.out, by omega, D9.fr⟩
      · go_wp2_with fail
        refine (spec6zero _).mono ?_
        rintro e wa ⟨rfl, ba⟩
        go_wp2_with fail
        refine (spec6bytes zero6 _ zero6_ok).mono ?_
        rintro e wb ⟨vq, rfl, ob, bb⟩
        have Rq := Rwz.new ob (ptBt_byte (ok_red _))
        replace Rm := (Rm.bel ba).bel bb
        replace Rs := (Rs.bel ba).bel bb
        have fr := ((D9.calm ba).calm bb).fr
        clear D9 ba bb ob Rp
        go_wp2
        go_meet
        case rel => exact dv_of Rq (by omega) Rm (by omega) Rs (by omega) fr
  case rest =>
    obtain ⟨a1, n1, c1, l1, a2, n2, c2, l2, a3, n3, c3, l3, rfl, rfl, rfl, b1, m1, b2, m2, b3, m3, fr⟩ := hcut
    have HD : Hid (Dv w wc (.slice a1 n1 c1) (.slice a2 n2 c2) (.slice a3 n3 c3)) := ⟨_, _, _, _, _, _, _, _, _, _, _, _, rfl, rfl, rfl, b1, m1, b2, m2, b3, m3, fr⟩
    clear b1 m1 b2 m2 b3 m3 fr
    go_wp2
    go_ret3
    exact ⟨_, _, _, rfl, HD.out⟩
end Go.Proofs.YtihoaakbkffejaaGreatDoor
namespace Go.Proofs.YtihoaakbkffejaaGreatDoor
open Go.RowKit Go.Extern.Stop Go.Stop Go.Extern
set_option maxRecDepth 100000

theorem e_isTypeOf (v : Value) (w : World) : (Extern.ReflectliteType.typeOf #[.iface 202 v]).run Tryz.prog w = .ok (.iface 172 (.agg #[.pointer (some ⟨10, 202, none⟩)])) w := by kernel_rfl
def cmpE : Array Value → Sem Value := Extern.ReflectliteType.method fun t => do Go.Extern.Rtype.noPackHeld "Comparable" t; pure (.bool (← typeInfo t).comparable)
theorem e_isComparable (w : World) : (cmpE #[.agg #[.pointer (some ⟨10, 202, none⟩)]]).run Tryz.prog w = .ok (.bool true) w := by kernel_rfl
theorem e_mComp (v : Value) (w : World) : (Go.method 339 172 v "Comparable").run Tryz.prog w = .ok (176, v) w := by kernel_rfl
theorem e_mUnw (v : Value) (w : World) : (Go.method 339 139 v "Unwrap").run Tryz.prog w = .ok (172, v) w := by kernel_rfl
theorem e_isComp : (Tryz.prog.info? 202).map (·.comparable) = some true := by kernel_rfl
theorem e_isSize : (Tryz.prog.info? 227).map (·.size) = some 1 := by kernel_rfl
theorem e_noIsW (v : Value) (xT : TypeId) (w : World) : (Instr.typeAssert (.iface 139 v) xT 174 true).run Tryz.prog w = .ok (.tuple #[.nilIface, .bool false]) w := run_typeAssert_lacksB Tryz.underlying174 (by kernel_rfl) (by kernel_rfl) v xT w
theorem e_hasUnwrapW (v : Value) (xT : TypeId) (w : World) : (Instr.typeAssert (.iface 139 v) xT 177 true).run Tryz.prog w = .ok (.tuple #[.iface 139 v, .bool true]) w := run_typeAssert_hasB Tryz.underlying177 (by kernel_rfl) v xT w

theorem is_nil (b : Addr) (w : World) :
  Calls Tryz.prog 45 #[.nilIface, .iface 202 (.pointer (some b))] w fun e w' => e = .returned (.bool false) ∧ w' = w := by
 have hn := run_eql_iface_nil_left (P := Tryz.prog) w 202 (.pointer (some b)) Tryz.underlying76
 go_enter Tryz.func45, Tryz.ntmps45
 go_wp2
 go_ret
 exact ⟨rfl, rfl⟩

theorem unwrapC (b : Addr) (s : Value) (w : World) (hE2 : (w.alloc (.cells #[s] 139)).cell? ⟨2, 0, none⟩ = some (.iface 202 (.pointer (some b)))) :
  Calls Tryz.prog 172 #[.agg #[s]] w fun e w' => e = .returned (.iface 202 (.pointer (some b))) ∧ w' = w.alloc (.cells #[s] 139) := by
 go_enter Tryz.func172, Tryz.ntmps172
 go_wp2
 go_ret
 exact ⟨rfl, rfl⟩

set_option maxHeartbeats 2000000 in
theorem is_fault (b : Addr) (s : Value) (w : World) (hg : 2 < w.heap.size) (hE : w.cell? ⟨2, 0, none⟩ = some (.iface 202 (.pointer (some b)))) :
  Calls Tryz.prog 45 #[.iface 139 (.agg #[s]), .iface 202 (.pointer (some b))] w fun e w' => e = .returned (.bool true) ∧ Below w.heap.size w w' := by
 obtain ⟨i, hi, hcmp⟩ := Option.map_eq_some_iff.1 e_isComp
 obtain ⟨j, hj, hjs⟩ := Option.map_eq_some_iff.1 e_isSize
 have h8 := @run_callFunc_extern Tryz.prog 86 _ Extern.ReflectliteType.typeOf Tryz.func86 (by kernel_rfl) (by kernel_rfl) (by kernel_rfl) (by kernel_rfl)
 have h32 := @run_callFunc_extern Tryz.prog 176 _ cmpE Tryz.func176 (by kernel_rfl) (by kernel_rfl) (by kernel_rfl) (by kernel_rfl)
 have mR := e_mComp
 have mU := e_mUnw
 have tT := e_isTypeOf
 have cT := e_isComparable
 have nW := e_noIsW
 have uW := e_hasUnwrapW
 have hty := run_eql_iface_types (P := Tryz.prog) 139 202 (.agg #[s]) (.pointer (some b)) Tryz.underlying76 (by decide) w
 obtain ⟨W, hW⟩ : ∃ W, W = w.alloc (.cells #[s] 139) := ⟨_, rfl⟩
 have bW : Below w.heap.size w W := by rw [hW]; exact (Below.refl _ _).alloc (Nat.le_refl _) _
 have hE2 : (w.alloc (.cells #[s] 139)).cell? ⟨2, 0, none⟩ = some (.iface 202 (.pointer (some b))) := by rw [← hW]; exact (bW.cell (p := ⟨2, 0, none⟩) hg).trans hE
 have heq := run_eql_iface_ptr_same (P := Tryz.prog) (w.alloc (.cells #[s] 139)) b Tryz.underlying76 Tryz.underlying202 hi hcmp hj
 rw [hW] at bW
 clear hW W
 go_enter Tryz.func45, Tryz.ntmps45
 go_wp2
 refine wp_loop_rounds 2 ?_
 rw [rounds_succ]
 go_wp2_with (go_at_call 172; refine (unwrapC b s w hE2).mono ?_; rintro e z ⟨rfl, rfl⟩)
 rw [rounds_succ]
 go_wp2
 go_ret
 exact ⟨rfl, bW⟩
end Go.Proofs.YtihoaakbkffejaaGreatDoor
namespace Go.Proofs.YtihoaakbkffejaaGreatDoor
open Go.RowKit
set_option maxRecDepth 100000

set_option maxHeartbeats 8000000 in
theorem implVerify' (a : Option Addr) (n c : Nat) (ps : List Int) (b : Option Addr) (m d : Nat) (ms : List Int) (a' : Option Addr) (k c' : Nat) (ss : List Int) (w : World) (hp : Bs w a n c ps) (hm : Bs w b m d ms) (hs : Bs w a' k c' ss) (be : Addr) (hG : VarsV w be) :
  Calls Tryz.prog 12 #[.slice a n c, .slice b m d, .slice a' k c'] w fun e w' => e = .returned (.bool (vfy ps ms ss)) ∧ Below w.heap.size w w' := by
 obtain ⟨r, hr⟩ : ∃ r, r = vfy ps ms ss := ⟨_, rfl⟩
 have HF : Hid (∀ Z, Below w.heap.size w Z → Calls Tryz.prog 46 #[.slice a n c, .slice b m d, .slice a' k c'] Z fun e w' => (r = true ∧ e = .returned .nilIface ∨ r = false ∧ ∃ s, e = .returned (.iface 139 (.agg #[s]))) ∧ Below Z.heap.size Z w') := by
  unfold Hid; intro Z hZ; rw [hr]; exact implFault a n c ps b m d ms a' k c' ss Z (hp.below hZ) (hm.below hZ) (hs.below hZ) be (hG.kept hZ)
 rw [← hr]
 clear hr hp hm hs
 have HG : Hid (∀ Z, Below w.heap.size w Z → VarsV Z be) := by unfold Hid; intro Z hZ; exact hG.kept hZ
 clear hG
 go_enter Tryz.func12, Tryz.ntmps12
 go_upto_region 1 with fail
 try simp only [Act.put]
 refine tame [kc 7 (.slice a n c), kc 8 (.slice b m d), kc 9 (.slice a' k c'), kv 10 (fun _ _ _ v => r = true ∧ v = .nilIface ∨ r = false ∧ ∃ s, v = .iface 139 (.agg #[s])), kc 11 (.iface 202 (.pointer (some be))), kc 12 (.bool (!r)), kc 13 (.bool r), kc 6 (.bool r)] 8 (by kernel_rfl) (by kernel_rfl) (by kernel_rfl)
  (by repeat' first | exact trivial | apply kc_keeps | (intro _ _ _ _ _ h _ _; exact h) | constructor) 0 (by kernel_rfl) (fun vv ll hh y f => ?_) (fun vv ll hh y f F ivh aph => ?_)
 ·have hE := (HG.out y f).E
  refine ⟨tp (by kernel_rfl), tp (by kernel_rfl), tp (by kernel_rfl), tr (fun _ => (HF.out y f).mono ?_) (by kernel_rfl), tp ?_, tr (f := 45) (args := #[vv 3, .iface 202 (.pointer (some be))]) (fun x => ?_) (by kernel_rfl), tp ?_, tp (by kernel_rfl), trivial⟩
  ·rintro e z ⟨h | h, hb⟩
   ·exact ⟨_, h.2, _, rfl, hb, .inl ⟨h.1, rfl⟩⟩
   ·obtain ⟨h1, s, h2⟩ := h
    exact ⟨_, h2, _, rfl, hb, .inr ⟨h1, s, rfl⟩⟩
  ·simp only [fillK, putT, List.setIfInBounds_toArray, List.set_cons_zero, List.set_cons_succ]
   unfold execOp
   go_simp
  ·have h3 := x { on := 3, ground := Ground.data } (by simp) rfl _ rfl
   rcases h3 with ⟨h1, h2⟩ | ⟨h1, s, h2⟩
   ·simp only [] at h2
    rw [h2, h1]
    refine (is_nil be y).mono ?_
    rintro e z ⟨rfl, rfl⟩
    exact ⟨_, rfl, undef, rfl, Below.refl _ _, trivial⟩
   ·simp only [] at h2
    rw [h2, h1]
    refine (is_fault be s y (HG.out y f).e0 hE).mono ?_
    rintro e z ⟨rfl, hb⟩
    exact ⟨_, rfl, undef, rfl, hb, trivial⟩
  ·simp only [fillK, putT, List.setIfInBounds_toArray, List.set_cons_zero, List.set_cons_succ]
   unfold execOp
   go_simp
 ·refine wpAny_done (by kernel_rfl) ?_ _
  simp only [fillK, putT, List.setIfInBounds_toArray, List.set_cons_zero, List.set_cons_succ]
  go_wp2
  go_ret
  exact ⟨rfl, f⟩
end Go.Proofs.YtihoaakbkffejaaGreatDoor
namespace Go.Proofs.YtihoaakbkffejaaGreatDoor
open Go.ChangeShapes Go.WideShapes Go.ChangeAt Go.RowKit
set_option maxRecDepth 100000

theorem own : ownKnob Tryz.prog.godebug = none := by kernel_rfl
theorem laidOut : laidOutB Tryz.prog = true := by kernel_rfl
theorem gPrime : Tryz.prog.globalNamed "loop.example/g00412/impl.fieldPrime" = some 4 := by kernel_rfl
theorem tPrime : (Tryz.prog.globals[4]?).map (·.type) = some 65 := by kernel_rfl
theorem gMinus : Tryz.prog.globalNamed "loop.example/g00412/impl.rootOfMinusOne" = some 9 := by kernel_rfl
theorem tMinus : (Tryz.prog.globals[9]?).map (·.type) = some 65 := by kernel_rfl
theorem gOrder : Tryz.prog.globalNamed "loop.example/g00412/impl.groupOrder" = some 6 := by kernel_rfl
theorem tOrder : (Tryz.prog.globals[6]?).map (·.type) = some 65 := by kernel_rfl
theorem gD : Tryz.prog.globalNamed "loop.example/g00412/impl.curveD" = some 5 := by kernel_rfl
theorem tD : (Tryz.prog.globals[5]?).map (·.type) = some 65 := by kernel_rfl
theorem gBX : Tryz.prog.globalNamed "loop.example/g00412/impl.curveBaseX" = some 0 := by kernel_rfl
theorem tBX : (Tryz.prog.globals[0]?).map (·.type) = some 65 := by kernel_rfl
theorem gBY : Tryz.prog.globalNamed "loop.example/g00412/impl.curveBaseY" = some 1 := by kernel_rfl
theorem tBY : (Tryz.prog.globals[1]?).map (·.type) = some 65 := by kernel_rfl

theorem vr_of {W : World} {n : String} {g : Nat} {cs : Array Value} {l : List Value} (hg : Tryz.prog.globalNamed n = some g) (hv : W.var? Tryz.prog n = some cs) (hl : cs.toList = l) : Vr W g l := by
 unfold World.var? at hv
 rw [hg] at hv
 simp only [Option.bind_some] at hv
 split at hv
 ·rename_i cs' t z he
  cases hv
  exact ⟨t, z, by rw [he, ← hl]⟩
 ·cases hv
theorem vPrime {H : Type} {enc : TypeId × Value → H} {W : World} {sp : Nat → Bool} {held : Bool} {f : Nat} {cs : Array Value} {p : List MemPlace} (hv : W.var? Tryz.prog "loop.example/g00412/impl.fieldPrime" = some cs) (h : DataW.trod enc Tryz.prog W 0 sp held f 65 cs.toList = some (Rows.laid_loop_example_g00412_impl_fieldPrime, p)) : Vr W 4 (I64 PL) :=
 vr_of gPrime hv (Lib.cells_of_tab (zs := PL) Tryz.underlying65 Tryz.underlying3 (by kernel_rfl) (by kernel_rfl) h)
theorem vMinus {H : Type} {enc : TypeId × Value → H} {W : World} {sp : Nat → Bool} {held : Bool} {f : Nat} {cs : Array Value} {p : List MemPlace} (hv : W.var? Tryz.prog "loop.example/g00412/impl.rootOfMinusOne" = some cs) (h : DataW.trod enc Tryz.prog W 0 sp held f 65 cs.toList = some (Rows.laid_loop_example_g00412_impl_rootOfMinusOne, p)) : Vr W 9 (I64 QL) :=
 vr_of gMinus hv (Lib.cells_of_tab (zs := QL) Tryz.underlying65 Tryz.underlying3 (by kernel_rfl) (by kernel_rfl) h)
theorem vOrder {H : Type} {enc : TypeId × Value → H} {W : World} {sp : Nat → Bool} {held : Bool} {f : Nat} {cs : Array Value} {p : List MemPlace} (hv : W.var? Tryz.prog "loop.example/g00412/impl.groupOrder" = some cs) (h : DataW.trod enc Tryz.prog W 0 sp held f 65 cs.toList = some (Rows.laid_loop_example_g00412_impl_groupOrder, p)) : Vr W 6 (I64 OL) :=
 vr_of gOrder hv (Lib.cells_of_tab (zs := OL) Tryz.underlying65 Tryz.underlying3 (by kernel_rfl) (by kernel_rfl) h)
theorem vD {H : Type} {enc : TypeId × Value → H} {W : World} {sp : Nat → Bool} {held : Bool} {f : Nat} {cs : Array Value} {p : List MemPlace} (hv : W.var? Tryz.prog "loop.example/g00412/impl.curveD" = some cs) (h : DataW.trod enc Tryz.prog W 0 sp held f 65 cs.toList = some (Rows.laid_loop_example_g00412_impl_curveD, p)) : Vr W 5 (I64 DL) :=
 vr_of gD hv (Lib.cells_of_tab (zs := DL) Tryz.underlying65 Tryz.underlying3 (by kernel_rfl) (by kernel_rfl) h)
theorem vBX {H : Type} {enc : TypeId × Value → H} {W : World} {sp : Nat → Bool} {held : Bool} {f : Nat} {cs : Array Value} {p : List MemPlace} (hv : W.var? Tryz.prog "loop.example/g00412/impl.curveBaseX" = some cs) (h : DataW.trod enc Tryz.prog W 0 sp held f 65 cs.toList = some (Rows.laid_loop_example_g00412_impl_curveBaseX, p)) : Vr W 0 (I64 BX) :=
 vr_of gBX hv (Lib.cells_of_tab (zs := BX) Tryz.underlying65 Tryz.underlying3 (by kernel_rfl) (by kernel_rfl) h)
theorem vBY {H : Type} {enc : TypeId × Value → H} {W : World} {sp : Nat → Bool} {held : Bool} {f : Nat} {cs : Array Value} {p : List MemPlace} (hv : W.var? Tryz.prog "loop.example/g00412/impl.curveBaseY" = some cs) (h : DataW.trod enc Tryz.prog W 0 sp held f 65 cs.toList = some (Rows.laid_loop_example_g00412_impl_curveBaseY, p)) : Vr W 1 (I64 BY) :=
 vr_of gBY hv (Lib.cells_of_tab (zs := BY) Tryz.underlying65 Tryz.underlying3 (by kernel_rfl) (by kernel_rfl) h)
theorem var_below {W W' : World} {n : String} {cs : Array Value} (hb : Below W.heap.size W W') (h : W.var? Tryz.prog n = some cs) : W'.var? Tryz.prog n = some cs := by
 unfold World.var? at h ⊢
 cases hg : Tryz.prog.globalNamed n with
 | none => rw [hg] at h; cases h
 | some g =>
  rw [hg] at h
  simp only [Option.bind_some] at h ⊢
  by_cases hlt : g < W.heap.size
  ·rw [hb.block g hlt]; exact h
  ·rw [Array.getElem?_eq_none (by omega)] at h
   cases h
theorem vars_carry {H : Type} {enc : TypeId × Value → H} {W W' : World} (hb : Below W.heap.size W W') : ∀ {ns : List String} {gs : List (DataW H)} {ps : List MemPlace},
  (∀ n ∈ ns, ∀ g t, Tryz.prog.globalNamed n = some g → (Tryz.prog.globals[g]?).map (·.type) = some t → Tryz.prog.readableRec t = true ∧ t < Tryz.prog.types.size) →
  DataW.TrodVars enc Tryz.prog W (fun _ => true) ns gs ps → DataW.TrodVars enc Tryz.prog W' (fun b => decide (b < W.heap.size)) ns gs ps
 | [], [], _, _, h => h
 | n :: ns, d :: ds, ps, hr, h => by
  obtain ⟨g, t, cs, fuel, p, q, h1, h2, h3, h4, hs, e⟩ := h
  obtain ⟨r1, r2⟩ := hr n (by simp) g t h1 h2
  have hT : DataW.Trod enc Tryz.prog W 0 (fun _ => true) true t (.agg cs) d p := ⟨fuel, h4⟩
  obtain ⟨fuel', h4'⟩ := Below.trod laidOut r1 r2 hT hb (DataW.trod_lt _ _ _ _ h4)
  exact ⟨g, t, cs, fuel', p, q, h1, h2, var_below hb h3, h4', vars_carry hb (fun n hn => hr n (by simp [hn])) hs, e⟩
 | [], _ :: _, _, _, h => by cases h
 | _ :: _, [], _, _, h => by cases h

end Go.Proofs.YtihoaakbkffejaaGreatDoor

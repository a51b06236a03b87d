/-
  What is proved here: the contract of the program's sumOfMany: so many times a point, by doubling and adding through an interface; where its variables hold the prime and d; plain mathematics on multipliers as the program makes them: a column put below a number, how often the order goes into it, columns from the highest on; no program is spoken of, no condition; a multiplier of the program is sixteen cells, as limbs are: how it is built and how its part is taken; the contract of the program's multiplierOf; where the program's variable holds the order; a multiplier out of the parts of a list: limbsOf and multiplierOf together; where the program's variable holds the order.
-/
import Derived.Test.YtoblilngppjmhaaDoorW9Oc
import Derived.Test.YtoblilngppjmhaaDoorW9Oe
import Derived.Test.YtoblilngppjmhaaDoorW9Jg
import Derived.Test.YtoblilngppjmhaaDoorW9Uh
import Derived.Test.YtoblilngppjmhaaDoorW9Yj
import Derived.Test.YtoblilngppjmhaaDoorW9Uc
import Derived.Test.YtoblilngppjmhaaDoorW9Arr
import Derived.Test.YtoblilngppjmhaaDoorW9Jn
import Derived.Test.YtoblilngppjmhaaDoorW9Jlw
import Derived.Test.YtoblilngppjmhaaDoorW9Ua
import Derived.Test.YtoblilngppjmhaaDoorW9Jhi
namespace Go.Proofs.YtoblilngppjmhaaDoor
open Go.RowKit
set_option maxRecDepth 100000

/-- What lies there while the bits are gone through. -/
structure SM (w W : World) (k : List Int) : Prop where
  fr : Below w.heap.size w W
  pk : Arr W w.heap.size 89 (I64 k)
  vP : Vr W 4 (I64 PL)
  vD : Vr W 2 (I64 DL)
theorem SM.go {w A B : World} {k : List Int} (h : SM w A k) (hb : Below A.heap.size A B) : SM w B k := ⟨h.fr.trans (hb.mono h.fr.size), h.pk.kept hb, h.vP.kept hb, h.vD.kept hb⟩
theorem jst_one {P : E4} {N n : Nat} (h : N / 2 ^ (252 - n) % 2 = 1) : jst P N (n + 1) = join6 (dbl6 (jst P N n)) P := by rw [jst, if_pos h]
theorem jst_nil {P : E4} {N n : Nat} (h : ¬ N / 2 ^ (252 - n) % 2 = 1) : jst P N (n + 1) = dbl6 (jst P N n) := by rw [jst, if_neg h]

set_option maxHeartbeats 8000000 in
theorem implMany (P : E4) (k : List Int) (w : World) (hP : P.Ok) (hk : k.length = 16) (hm : Lm k) (hV : Vr w 4 (I64 PL)) (hD : Vr w 2 (I64 DL)) :
    Calls Tryd.prog 68 #[.iface 72 (.agg (I64 (mk6 (lim 16 0) (lim 16 1)).cells).toArray), .iface 72 (.agg (I64 P.cells).toArray), .agg (I64 k).toArray] w fun e w' => e = .returned (.iface 72 (.agg (I64 (jul6 P (val k).toNat).cells).toArray)) ∧ Below w.heap.size w w' := by
  have hbit := fun j hj => bitO hk hm j hj
  obtain ⟨N, hN⟩ : ∃ N, N = (val k).toNat := ⟨_, rfl⟩
  rw [← hN] at hbit ⊢
  obtain ⟨S, hS⟩ : ∃ S : Nat → E4, ∀ n, S n = jst P N n := ⟨jst P N, fun _ => rfl⟩
  have HO : Hid (∀ n, (S n).Ok) := by unfold Hid; intro n; rw [hS]; exact jst_ok P N n
  have H1 : Hid (∀ n, N / 2 ^ (252 - n) % 2 = 1 → S (n + 1) = join6 (dbl6 (S n)) P) := by unfold Hid; intro n h; rw [hS, hS]; exact jst_one h
  have H0 : Hid (∀ n, ¬ N / 2 ^ (252 - n) % 2 = 1 → S (n + 1) = dbl6 (S n)) := by unfold Hid; intro n h; rw [hS, hS]; exact jst_nil h
  have hres : jul6 P N = S 253 := by rw [hS]; rfl
  have hS0 : S 0 = mk6 (lim 16 0) (lim 16 1) := by rw [hS]; rfl
  rw [hres, ← hS0]
  have HA : Hid (∀ (Q R : E4), Q.Ok → R.Ok → ∀ Z, Vr Z 4 (I64 PL) → Vr Z 2 (I64 DL) → Calls Tryd.prog 57 #[.agg (I64 Q.cells).toArray, .iface 72 (.agg (I64 R.cells).toArray)] Z fun e w' => e = .returned (.iface 72 (.agg (I64 (join6 Q R).cells).toArray)) ∧ Below Z.heap.size Z w') := by
    unfold Hid; intro Q R hQ hR Z h1 h2; exact implJoined Q R Z hQ hR h1 h2
  have HD2 : Hid (∀ (Q : E4), Q.Ok → ∀ Z, Vr Z 4 (I64 PL) → Calls Tryd.prog 63 #[.agg (I64 Q.cells).toArray] Z fun e w' => e = .returned (.iface 72 (.agg (I64 (dbl6 Q).cells).toArray)) ∧ Below Z.heap.size Z w') := by
    unfold Hid; intro Q hQ Z h1; exact implDoubled Q Z hQ h1
  have HB : Hid (∀ (j : Nat), j < 256 → ∀ Z, Calls Tryd.prog 75 #[.agg (I64 k).toArray, .int .i64 (j : Int)] Z fun e w' => e = .returned (.int .i64 ((N / 2 ^ j % 2 : Nat) : Int)) ∧ Below Z.heap.size Z w') := by
    unfold Hid; intro j hj Z; rw [← hbit j hj]; exact implBit k j Z hk hm hj
  have hik : (Tryd.prog.info? 70).map (·.size) = some (I64 k).length := by simpa [hk] using infoL
  have hu : Tryd.prog.underlying 70 = some (.array 16 3) := Tryd.underlying70
  obtain ⟨A, hA⟩ : ∃ A, A = (I64 k).toArray := ⟨_, rfl⟩
  have fr : Below w.heap.size w (w.alloc (.cells A 89)) := (Below.refl _ _).alloc (Nat.le_refl _) _
  have EE : SM w (w.alloc (.cells A 89)) k := ⟨fr, by rw [hA]; exact Arr.new w (I64 k) _, hV.kept fr, hD.kept fr⟩
  obtain ⟨W, hW⟩ : ∃ W, W = w.alloc (.cells A 89) := ⟨_, rfl⟩
  rw [← hA]
  rw [← hW] at EE
  clear hA hN hS hres hS0 hbit hm hV hD fr hk
  go_enter Tryd.func68, Tryd.ntmps68
  go_upto_region 2 with fail
  rw [← hW]
  clear hW
  go_wp2
  go_loopw [7, 8] (fun s i wr => ∃ (n : Nat) (z : Int), n ≤ 253 ∧ z = 252 - (n : Int) ∧ s = .iface 72 (.agg (I64 (S n).cells).toArray) ∧ i = .int .i64 z ∧ SM w wr k) (fun _ i _ => (intOf i + 1).toNat)
  case atStart => exact ⟨0, 252, by omega, by omega, rfl, rfl, EE⟩
  case round =>
    clear EE
    obtain ⟨n, z, hn, hz, rfl, rfl, EE⟩ := hrel
    obtain ⟨R, hR⟩ : ∃ R, R = S n := ⟨_, rfl⟩
    rw [← hR]
    have hRo : R.Ok := by rw [hR]; exact HO.out n
    have HR : Hid _ := hR
    clear hR
    by_cases hn6 : n = 253
    · have hz0 : z < 0 := by omega
      have hz1 : ¬ (0 ≤ z) := by omega
      have HRR : Hid (R = S 253) := by unfold Hid; rw [HR.out, hn6]
      have hfr := EE.fr
      clear HR hz hn6 EE hn
      go_wp2
      go_ret
      exact ⟨by rw [HRR.out]; rfl, hfr⟩
    · obtain ⟨j, hj⟩ : ∃ j, j = 252 - n := ⟨_, rfl⟩
      obtain rfl : z = (j : Int) := by omega
      have hj0 : (0 : Int) ≤ (j : Int) := by omega
      have hw1 : wrap64 ((j : Int) - 1) = (j : Int) - 1 := by unfold wrap64; omega
      have HJ : Hid (j = 252 - n) := hj
      have HJ2 : Hid (j < 256) := by unfold Hid; omega
      have HN : Hid (n < 253) := by unfold Hid; omega
      obtain ⟨D, hDe⟩ : ∃ D, D = dbl6 R := ⟨_, rfl⟩
      have hDo : D.Ok := by rw [hDe]; exact long6_ok _ _ _ _
      have HDD : Hid (∀ Z, Vr Z 4 (I64 PL) → Calls Tryd.prog 63 #[.agg (I64 R.cells).toArray] Z fun e w' => e = .returned (.iface 72 (.agg (I64 D.cells).toArray)) ∧ Below Z.heap.size Z w') := by unfold Hid; rw [hDe]; exact HD2.out R hRo
      have HDe : Hid _ := hDe
      obtain ⟨bt, hbt⟩ : ∃ bt, bt = N / 2 ^ j % 2 := ⟨_, rfl⟩
      have hbt1 : bt < 2 := by omega
      have HBt : Hid _ := hbt
      have HBB : Hid (∀ Z, Calls Tryd.prog 75 #[.agg (I64 k).toArray, .int .i64 (j : Int)] Z fun e w' => e = .returned (.int .i64 (bt : Int)) ∧ Below Z.heap.size Z w') := by unfold Hid; rw [hbt]; exact HB.out j (by omega)
      clear hz hn6 hj hDe hbt hn
      go_wp2_with fail
      refine (HDD.out _ EE.vP).mono ?_
      rintro e w1 ⟨rfl, hb1⟩
      replace EE := EE.go hb1
      clear hb1
      have hpk := arr_range EE.pk
      go_wp2_with (refine wpList_load_mid rfl 70 _ rfl w.heap.size 0 rfl (I64 k) _ hpk hu rfl hik ?_)
      clear hpk
      refine (HBB.out _).mono ?_
      rintro e w2 ⟨rfl, hb2⟩
      replace EE := EE.go hb2
      clear hb2
      by_cases hb1 : bt = 1
      · subst hb1
        have HST : Hid (S (n + 1) = join6 D P) := by unfold Hid; rw [H1.out n (by rw [← HJ.out, ← HBt.out]), ← HR.out, ← HDe.out]
        obtain ⟨T, hT⟩ : ∃ T, T = join6 D P := ⟨_, rfl⟩
        rw [← hT] at HST
        have HA1 : Hid (∀ Z, Vr Z 4 (I64 PL) → Vr Z 2 (I64 DL) → Calls Tryd.prog 57 #[.agg (I64 D.cells).toArray, .iface 72 (.agg (I64 P.cells).toArray)] Z fun e w' => e = .returned (.iface 72 (.agg (I64 T.cells).toArray)) ∧ Below Z.heap.size Z w') := by unfold Hid; rw [hT]; exact HA.out D P hDo hP
        clear hT
        go_wp2_with fail
        refine (HA1.out _ EE.vP EE.vD).mono ?_
        rintro e w3 ⟨rfl, hb3⟩
        replace EE := EE.go hb3
        clear hb3
        go_wp2
        go_roundw
        case rel => exact ⟨n + 1, (j : Int) - 1, by have := HN.out; omega, by have := HJ.out; have := HN.out; omega, by rw [HST.out], by go_num, EE⟩
        case measure => simp [intOf]; omega
      · have hb0 : bt = 0 := by omega
        subst hb0
        have HST : Hid (S (n + 1) = D) := by unfold Hid; rw [H0.out n (by rw [← HJ.out, ← HBt.out]; omega), ← HR.out, ← HDe.out]
        clear hb1
        go_wp2
        go_roundw
        case rel => exact ⟨n + 1, (j : Int) - 1, by have := HN.out; omega, by have := HJ.out; have := HN.out; omega, by rw [HST.out], by go_num, EE⟩
        case measure => simp [intOf]; omega

end Go.Proofs.YtoblilngppjmhaaDoor
namespace Go.Proofs.YtoblilngppjmhaaDoor
open Go.RowKit
set_option maxRecDepth 100000

/-- Sixteen parts, without so many times the order's. -/
def ost (t : Int) (l : List Int) : List Int := List.zipWith (fun x y => x - t * y) l OL
theorem ost_len {t : Int} {l : List Int} (h : l.length = 16) : (ost t l).length = 16 := by simp [ost, h, OL_len]
theorem zipT_val (t : Int) : ∀ a b : List Int, a.length = b.length → val (List.zipWith (fun x y => x - t * y) a b) = val a - t * val b
  | [], [], _ => by simp [val]
  | x :: a, y :: b, h => by
    have := zipT_val t a b (by simpa using h)
    simp only [List.zipWith_cons_cons, val, this]
    rw [Int.mul_add, Int.mul_left_comm t 65536]
    omega
  | [], _ :: _, h => by simp at h
  | _ :: _, [], h => by simp at h
theorem ost_val {t : Int} {l : List Int} (h : l.length = 16) : val (ost t l) = val l - t * qO := by
  unfold ost
  rw [zipT_val t l OL (by rw [h, OL_len]), OL_val]
theorem crd_val {l : List Int} (hl : l.length = 16) : val (crd l) = val l := by
  rw [crd_eq hl, val_append, lim_len, val_lim]
  simp only [val]
  have := Int.emod_add_mul_ediv (val l) (65536 ^ 15)
  omega
/-- How often the order is taken away. -/
def tms (V : Int) : Int := V / 65536 ^ 15 / 4096 - 1
/-- Numbers that may be settled: below 2^270. -/
def Sq (V : Int) : Prop := 0 ≤ V ∧ V < 1897137590064188545819787018382342682267975428761855001222473056385648716020711424
theorem tms_bd {V : Int} (h : Sq V) : -1 ≤ tms V ∧ tms V < 262144 := by
  unfold tms Sq at *
  rw [p240]
  omega
theorem tms_val {V : Int} (h : Sq V) : 0 ≤ V - tms V * qO ∧ V - tms V * qO < 2 * qO := by
  have hb := tms_bd h
  unfold tms Sq at *
  rw [p240] at *
  unfold qO
  omega
/-- What is settled comes to the rest modulo the order. -/
theorem settled {l : List Int} (hl : l.length = 16) (h : Sq (val l)) :
    crd (ost (tms (val l)) (crd l)) = lim 16 (val l - tms (val l) * qO) ∧ lim 16 (if val l - tms (val l) * qO < qO then val l - tms (val l) * qO else val l - tms (val l) * qO - qO) = redO (val l) := by
  have hc := crd_len hl
  have hv : val (ost (tms (val l)) (crd l)) = val l - tms (val l) * qO := by rw [ost_val hc, crd_val hl]
  have hb := tms_val h
  refine ⟨?_, ?_⟩
  · rw [crd_lim (ost_len hc) (by rw [hv]; exact hb.1) (by rw [hv]; have := hb.2; unfold qO at this ⊢; omega), hv]
  · have hr : redO (val l - tms (val l) * qO) = redO (val l) := by
      unfold redO
      rw [Int.sub_mul_emod_self_right]
    have hls := lessO hb.1 hb.2
    rw [← hr]
    split
    · rename_i hlt; exact hls.1 hlt
    · rename_i hlt; exact hls.2 hlt
end Go.Proofs.YtoblilngppjmhaaDoor
namespace Go.Proofs.YtoblilngppjmhaaDoor
open Go.RowKit
set_option maxRecDepth 100000

theorem infoM : (Tryd.prog.info? 89).map (·.size) = some 16 := by kernel_rfl
theorem built_mu {l : List Int} (h : l.length = 16) : Tryd.prog.built 89 [(0, .agg (I64 l).toArray)] = some (I64 l).toArray := by
  obtain ⟨a0, a1, a2, a3, a4, a5, a6, a7, a8, a9, a10, a11, a12, a13, a14, a15, rfl⟩ := list16 h
  kernel_rfl
theorem field_mu {l : List Int} (h : l.length = 16) (w : World) : (Instr.field 89 (.agg (I64 l).toArray) 0).run Tryd.prog w = .ok (.agg (I64 l).toArray) w := by
  obtain ⟨a0, a1, a2, a3, a4, a5, a6, a7, a8, a9, a10, a11, a12, a13, a14, a15, rfl⟩ := list16 h
  kernel_rfl
theorem build_mu {l : List Int} (h : l.length = 16) (w : World) : (Instr.build 89 #[(0, .agg (I64 l).toArray)]).run Tryd.prog w = .ok (.agg (I64 l).toArray) w := by
  obtain ⟨a0, a1, a2, a3, a4, a5, a6, a7, a8, a9, a10, a11, a12, a13, a14, a15, rfl⟩ := list16 h
  kernel_rfl
theorem wpList_mu {ops : Array Oper} {rest : List Oper} {o : Oper} {a : Act} {w : World} {Q : Exit → Act → World → Prop} (hg : o.guard = none) (x : Operand) (ho : o.op = .build 89 #[(0, x)]) (l : List Int) (hl : l.length = 16) (hx : a.eval x = .agg (I64 l).toArray)
    (h : wpList Tryd.prog ops Q rest (a.put o.dst (.agg (I64 l).toArray)) w) : wpList Tryd.prog ops Q (o :: rest) a w := by
  have hb : Tryd.prog.built 89 ((#[(0, x)] : Array (Nat × Operand)).map fun (i, x) => (i, a.eval x)).toList = some (I64 l).toArray := by
    simp only [List.map_toArray, List.map_cons, List.map_nil, hx]
    exact built_mu hl
  exact wpList_build hg 89 #[(0, x)] ho (by rw [hb]; rfl) (by rw [hb]; exact h)
theorem wpList_part {ops : Array Oper} {rest : List Oper} {o : Oper} {a : Act} {w : World} {Q : Exit → Act → World → Prop} (hg : o.guard = none) (x : Operand) (ho : o.op = .field 89 x 0) (l : List Int) (hl : l.length = 16) (hx : a.eval x = .agg (I64 l).toArray)
    (h : wpList Tryd.prog ops Q rest (a.put o.dst (.agg (I64 l).toArray)) w) : wpList Tryd.prog ops Q (o :: rest) a w :=
  wpList_plain hg fun _ hK => by
    unfold Oper.wp execOp
    simp only [ho, hx, Sem.run_bind, field_mu hl w, Sem.run_pure, Result.andThen_ok]
    exact hK _ _ h
theorem yieldsIf_mu {ops : Array Oper} {S : World → Prop} {op : Oper} {a : Act} (hw : Region.wanted op (yielded ops a.tmps) = true) (x : Operand) (ho : op.op = .build 89 #[(0, x)]) (l : List Int) (hl : l.length = 16) (hx : a.eval x = .agg (I64 l).toArray) : YieldsIf Tryd.prog ops S op (.agg (I64 l).toArray) a :=
  .inl ⟨hw, fun w _ => by
    unfold execOp
    simp only [ho, hx, Sem.run_bind, List.map_toArray, List.map_cons, List.map_nil, build_mu hl w, Sem.run_pure, Result.andThen_ok]⟩

/-- Whether limbs are a multiplier; it, or none. -/
def muB (n : List Int) (ok : Bool) : Bool := ok && decide (val n < qO)
def muL (n : List Int) (ok : Bool) : List Int := if muB n ok = true then n else Z16
theorem muL_len {n : List Int} {ok : Bool} (h : n.length = 16) : (muL n ok).length = 16 := by unfold muL; split <;> simp [h]

/-- The limbs, the result's cell, and the program's order. -/
structure M2 (w W : World) (a : List Int) : Prop where
  fr : Below w.heap.size w W
  pa : Arr W w.heap.size 70 (I64 a)
  pr : Arr W (w.heap.size + 1) 89 (I64 Z16)
  vr : Vr W 3 (I64 OL)
  g0 : 3 < w.heap.size
theorem M2.go {w A B : World} {a : List Int} (h : M2 w A a) (hb : Below A.heap.size A B) : M2 w B a := ⟨h.fr.trans (hb.mono h.fr.size), h.pa.kept hb, h.pr.kept hb, h.vr.kept hb, h.g0⟩
theorem M2.all {w W : World} {a : List Int} (h : M2 w W a) : W.rangeAt w.heap.size 0 (I64 a) ∧ W.rangeAt 3 0 (I64 OL) := ⟨arr_range h.pa, vr_range h.vr⟩
theorem M2.new {w : World} (a : List Int) (h : Vr w 3 (I64 OL)) : M2 w ((w.alloc (.cells (I64 a).toArray 70)).alloc (.cells (I64 Z16).toArray 89)) a := by
  have hb : Below w.heap.size w ((w.alloc (.cells (I64 a).toArray 70)).alloc (.cells (I64 Z16).toArray 89)) := ((Below.refl _ _).alloc (Nat.le_refl _) _).alloc (by simp) _
  refine ⟨hb, (Arr.new w (I64 a) _).alloc _, ?_, h.kept hb, h.lt⟩
  have := Arr.new (w.alloc (.cells (I64 a).toArray 70)) (I64 Z16) 89
  rw [World.size_alloc] at this
  exact this
/-- The result is stored. -/
theorem M2.put {w W : World} {a R : List Int} (h : M2 w W a) (hR : R.length = 16) : Arr (W.setCells (w.heap.size + 1) 0 (I64 R)) (w.heap.size + 1) 89 (I64 R) ∧ Below w.heap.size w (W.setCells (w.heap.size + 1) 0 (I64 R)) ∧
    ((W.setCells (w.heap.size + 1) 0 (I64 R)).rangeAt w.heap.size 0 (I64 a) ∧ (W.setCells (w.heap.size + 1) 0 (I64 R)).rangeAt 3 0 (I64 OL)) ∧ W.there (w.heap.size + 1) 0 (I64 R).toArray.size := by
  have h0 : 3 ≠ w.heap.size + 1 := by have := h.g0; omega
  exact ⟨Arr.setCells0 h.pr (by simp [hR]), setCells_below (by omega) _ _ h.fr, ⟨arr_range (Arr.setCellsO (by omega) _ _ h.pa), vr_range (Vr.setCellsO h0 h.vr)⟩, by have := arr_there h.pr; simpa [hR] using this⟩

set_option maxHeartbeats 2000000 in
theorem implMuOf (n : List Int) (ok : Bool) (w : World) (hl : n.length = 16) (hm : Lm n) (hV : Vr w 3 (I64 OL)) :
    Calls Tryd.prog 66 #[.agg (I64 n).toArray, .bool ok] w fun e w' => e = .returned (.tuple #[.agg (I64 (muL n ok)).toArray, .bool (muB n ok)]) ∧ Below w.heap.size w w' := by
  obtain ⟨d, hd⟩ : ∃ d, d = decide (val n < qO) := ⟨_, rfl⟩
  have HBL : Hid (∀ Z, Calls Tryd.prog 118 #[.agg (I64 n).toArray, .agg (I64 OL).toArray] Z fun e w' => e = .returned (.bool d) ∧ Below Z.heap.size Z w') := by
    unfold Hid; intro Z
    have := implBelow n OL Z hl OL_len hm OL_lm
    rw [OL_val, ← hd] at this
    exact this
  obtain ⟨B, hB⟩ : ∃ B, B = muB n ok := ⟨_, rfl⟩
  obtain ⟨L, hL⟩ : ∃ L, L = muL n ok := ⟨_, rfl⟩
  have HB0 : Hid (ok = false → B = false) := by unfold Hid; intro h; rw [hB, h]; rfl
  have HB1 : Hid (ok = true → B = d) := by unfold Hid; intro h; rw [hB, h, hd]; rfl
  have HL0 : Hid (B = false → L = Z16) := by unfold Hid; intro h; rw [hL]; unfold muL; rw [← hB, h]; rfl
  have HL1 : Hid (B = true → L = n) := by unfold Hid; intro h; rw [hL]; unfold muL; rw [← hB, h]; rfl
  rw [← hB, ← hL]
  obtain ⟨W, hW⟩ : ∃ W, W = (w.alloc (.cells (I64 n).toArray 70)).alloc (.cells #[.int .i64 0, .int .i64 0, .int .i64 0, .int .i64 0, .int .i64 0, .int .i64 0, .int .i64 0, .int .i64 0, .int .i64 0, .int .i64 0, .int .i64 0, .int .i64 0, .int .i64 0, .int .i64 0, .int .i64 0, .int .i64 0] 89) := ⟨_, rfl⟩
  have EE : M2 w W n := by rw [hW]; exact M2.new n hV
  obtain ⟨A, hA⟩ : ∃ A, A = (I64 n).toArray := ⟨_, rfl⟩
  rw [← hA] at hW ⊢
  have hin : (Tryd.prog.info? 70).map (·.size) = some (I64 n).toArray.size := by simpa [hl] using infoL
  have hinm : (Tryd.prog.info? 89).map (·.size) = some (I64 n).toArray.size := by simpa [hl] using infoM
  have hip : (Tryd.prog.info? 70).map (·.size) = some (I64 OL).toArray.size := infoL
  clear hd hB hL hA hV hm
  cases ok with
  | false =>
    obtain rfl : B = false := HB0.out rfl
    have HE : Hid (L = Z16) := HL0.out rfl
    have h2 := EE.pr.row (I64 Z16)
    have HB : Hid _ := setRow_below EE.fr (w.heap.size + 1) (I64 Z16).toArray (by omega)
    have h1 := hW ▸ EE.pr
    rw [hW] at h2 HB
    clear HBL HB0 HB1 HL0 HL1 EE hW
    go_enter Tryd.func66, Tryd.ntmps66
    go_wp2_with (refine wpList_store_row rfl 89 _ _ rfl (w.heap.size + 1) (I64 Z16).toArray rfl rfl 89 _ h1 infoM rfl (by simp [Value.oneCell']) ?_)
    exact bodyPost_ret (results_row_tmp (v := .bool false) (cs := I64 Z16) rfl rfl rfl h2 Tryd.underlying89 rfl infoM) rfl ⟨by rw [HE.out], HB.out⟩
  | true =>
    obtain rfl : B = d := HB1.out rfl
    have E0 := hW ▸ EE
    obtain ⟨gt, gz, hg⟩ := E0.vr
    clear HB0 HB1
    go_enter Tryd.func66, Tryd.ntmps66
    go_wp2_with (first
      | (refine wpList_load_rowW rfl 70 _ rfl w.heap.size rfl 70 (I64 n).toArray (0, 0) _ E0.pa Tryd.underlying70 rfl hin ?_)
      | (refine wpList_load_rowW rfl 70 _ rfl 3 rfl gt (I64 OL).toArray gz _ hg Tryd.underlying70 rfl hip ?_))
    rw [← hW]
    clear hW E0 hg
    refine (HBL.out _).mono ?_
    rintro e w1 ⟨rfl, hb1⟩
    replace EE := EE.go hb1
    clear hb1 HBL
    cases B with
    | false =>
      have HE : Hid (L = Z16) := HL0.out rfl
      have h1 := EE.pr
      have h2 := EE.pr.row (I64 Z16)
      have HB : Hid _ := setRow_below EE.fr (w.heap.size + 1) (I64 Z16).toArray (by omega)
      clear HL0 HL1 EE
      go_wp2_with (refine wpList_store_row rfl 89 _ _ rfl (w.heap.size + 1) (I64 Z16).toArray rfl rfl 89 _ h1 infoM rfl (by simp [Value.oneCell']) ?_)
      exact bodyPost_ret (results_row_tmp (v := .bool false) (cs := I64 Z16) rfl rfl rfl h2 Tryd.underlying89 rfl infoM) rfl ⟨by rw [HE.out], HB.out⟩
    | true =>
      have HE : Hid (L = n) := HL1.out rfl
      have h0 := EE.pa
      have h1 := EE.pr
      have h2 := EE.pr.row (I64 n)
      have HB : Hid _ := setRow_below EE.fr (w.heap.size + 1) (I64 n).toArray (by omega)
      clear HL0 HL1 EE
      go_wp2_with (first
        | (refine wpList_load_row rfl 70 _ rfl w.heap.size rfl 70 (I64 n).toArray (0, 0) _ h0 Tryd.underlying70 rfl hin ?_)
        | (refine wpList_mu rfl _ rfl n hl rfl ?_)
        | (refine wpList_store_row rfl 89 _ _ rfl (w.heap.size + 1) (I64 n).toArray rfl rfl 89 _ h1 hinm (by simp [hl]) (by simp [Value.oneCell']) ?_))
      exact bodyPost_ret (results_row_tmp (v := .bool true) (cs := I64 n) rfl rfl rfl h2 Tryd.underlying89 rfl (by simpa [hl] using infoM)) rfl ⟨by rw [HE.out], HB.out⟩
end Go.Proofs.YtoblilngppjmhaaDoor
namespace Go.Proofs.YtoblilngppjmhaaDoor
open Go.RowKit
set_option maxRecDepth 100000

/-- A slice as a multiplier; it, or none. -/
def scL (xs : List Int) : List Int := if scOk xs = true then xs else Z16
theorem scL_len (xs : List Int) : (scL xs).length = 16 := by
  unfold scL
  split
  · rename_i h; exact ((scOk_iff xs).1 h).1
  · rfl
theorem lmL_lm (xs : List Int) : Lm (lmL xs) := by
  unfold lmL
  split
  · rename_i h; exact ((lmOk_iff xs).1 h).2
  · intro x hx
    have : x = 0 := by simpa using hx
    omega
theorem scOk_lm (l : List Int) : scOk l = (lmOk l && decide (val l < qO)) := rfl
theorem muB_sc (xs : List Int) : muB (lmL xs) (lmOk xs) = scOk xs := by
  unfold muB
  rw [scOk_lm]
  cases h : lmOk xs with
  | false => rfl
  | true =>
    have e : lmL xs = xs := by unfold lmL; rw [if_pos h]
    rw [e]
theorem muL_sc (xs : List Int) : muL (lmL xs) (lmOk xs) = scL xs := by
  unfold muL scL
  rw [muB_sc]
  cases h : scOk xs with
  | false => rfl
  | true =>
    have h2 : lmOk xs = true := by rw [scOk_lm] at h; simp at h; exact h.1
    unfold lmL
    rw [if_pos h2]
/-- multiplierOf of what limbsOf answers. -/
theorem implMuSc (xs : List Int) (w : World) (hV : Vr w 3 (I64 OL)) :
    Calls Tryd.prog 66 #[.agg (I64 (lmL xs)).toArray, .bool (lmOk xs)] w fun e w' => e = .returned (.tuple #[.agg (I64 (scL xs)).toArray, .bool (scOk xs)]) ∧ Below w.heap.size w w' := by
  have := implMuOf (lmL xs) (lmOk xs) w (lmL_len xs) (lmL_lm xs) hV
  rw [muB_sc, muL_sc] at this
  exact this
end Go.Proofs.YtoblilngppjmhaaDoor

/-
  What is proved here: contracts of the laws' helpers on a multiplier: hold two against each other, mark; contracts of the laws' helpers on a multiplier: count, copy; the contract of the program's sumOfMany: so many times a point, by doubling and adding through an interface; where its variables hold the prime and d; plain mathematics on multipliers as the program makes them: a column put below a number, how often the order goes into it, columns from the highest on; no program is spoken of, no condition.
-/
import Derived.Test.YtoblilngppjmhaaDoorZKit
import Derived.Test.YtoblilngppjmhaaDoorZSmBI
import Derived.Test.YtoblilngppjmhaaDoorZKc
import Derived.Test.YtoblilngppjmhaaDoorZOc
import Derived.Test.YtoblilngppjmhaaDoorZOe
import Derived.Test.YtoblilngppjmhaaDoorZJg
import Derived.Test.YtoblilngppjmhaaDoorZUh
import Derived.Test.YtoblilngppjmhaaDoorZJa
import Derived.Test.YtoblilngppjmhaaDoorZUc
import Derived.Test.YtoblilngppjmhaaDoorZFn
namespace Go.Proofs.YtoblilngppjmhaaDoor
open Go.RowKit

set_option maxHeartbeats 1000000 in
theorem eqScC (a a' : Option Addr) (n c c' : Nat) (xs : List Int) (w : World) (h : Is w a n c xs) (h' : Is w a' n c' xs) (hn : n ≤ 2097152) :
    Calls Tryd.prog 44 #[.agg #[.slice a n c], .agg #[.slice a' n c']] w fun e w' => e = .returned (.bool true) ∧ Below w.heap.size w w' := by
  have HB : Hid (Below w.heap.size w ((w.alloc (.cells #[.slice a n c] 37)).alloc (.cells #[.slice a' n c'] 37))) := ((Below.refl _ _).alloc (Nat.le_refl _) _).alloc (by simp) _
  go_enter Tryd.func44, Tryd.ntmps44
  go_wp2_with fail
  refine (eqI a a' n c c' xs _ (h.below HB.out) (h'.below HB.out) hn).mono ?_
  rintro e w1 ⟨q, rfl, rfl⟩
  go_wp2
  go_ret
  exact ⟨rfl, bel_dN HB.out q⟩

set_option maxHeartbeats 1000000 in
theorem markScC {ty : Nat} (B n : Nat) (v : Value) (k0 : Int) (xs : List Int) (w : World) (ho : w.ownsRow B ty 1 v n (I64 xs)) (hn : n ≤ 2097152) (h0 : 0 ≤ k0) (h1 : k0 ≤ 10000000) :
    Calls Tryd.prog 45 #[.agg #[v], .int .i64 k0] w fun e w' => e = .returned (.int .i64 (k0 + n)) ∧ w'.ownsRow B ty 1 v n (I64 (marksI k0 n)) ∧ w.grownBy w' v.ownBlock := by
  go_enter Tryd.func45, Tryd.ntmps45
  go_wp2_with fail
  refine (markI B n v k0 xs _ (ho.alloc _) hn h0 h1).mono ?_
  rintro e w1 ⟨rfl, o1, g1⟩
  have GG : Hid (w.grownBy w1 v.ownBlock) := by
    unfold Hid
    exact ⟨g1.os, g1.tape, g1.output, Nat.le_trans (by simp) g1.size, fun i hi n1 => by
      have hi1 : i < (w.alloc (.cells #[v] 37)).heap.size := by simp; omega
      rw [g1.block i hi1 n1, heap_alloc_old _ _ hi]⟩
  have HO : Hid _ := o1
  clear g1 o1
  go_wp2
  go_ret
  exact ⟨rfl, HO.out, GG.out⟩

end Go.Proofs.YtoblilngppjmhaaDoor
namespace Go.Proofs.YtoblilngppjmhaaDoor
open Go.RowKit

theorem infoScL : (Tryd.prog.info? 59).map (·.size) = some 1 := by kernel_rfl

set_option maxHeartbeats 1000000 in
theorem szScC (a : Option Addr) (n c : Nat) (l : Int) (w : World) (h0 : 0 ≤ l) (hl : l ≤ 1048576) (hn : n ≤ 9223372036854775807) :
    Calls Tryd.prog 41 #[.agg #[.slice a n c], .int .i64 l] w fun e w' => ∃ r : Int, e = .returned (.int .i64 r) ∧ (r = -1 ∨ 0 ≤ r ∧ r ≤ l ∧ n ≤ 1048576) ∧ Below w.heap.size w w' := by
  have HB : Hid (Below w.heap.size w (w.alloc (.cells #[.slice a n c] 59))) := (Below.refl _ _).alloc (Nat.le_refl _) _
  go_enter Tryd.func41, Tryd.ntmps41
  go_wp2_with fail
  refine (szI a n c l _ h0 hl hn).mono ?_
  rintro e w1 ⟨rfl, rfl⟩
  by_cases hlt : l - (n : Int) < 0
  · rw [if_pos hlt]
    go_wp2
    go_ret
    exact ⟨-1, rfl, .inl rfl, HB.out⟩
  · rw [if_neg hlt]
    go_wp2
    go_ret
    exact ⟨_, rfl, .inr (by omega), HB.out⟩

set_option maxHeartbeats 1000000 in
theorem toScC (a : Option Addr) (n c : Nat) (xs : List Int) (w : World) (h : Is w a n c xs) (hn : n ≤ 2097152) :
    Calls Tryd.prog 43 #[.agg #[.slice a n c]] w fun e w' => ∃ a' c', e = .returned (.agg #[.slice a' n c']) ∧ w'.ownsRow w.heap.size 3 1 (.slice a' n c') n (I64 xs) ∧ Is w' a' n c' xs ∧ Below w.heap.size w w' := by
  obtain ⟨W, hW⟩ : ∃ W, W = ((w.alloc (.cells #[.slice a n c] 59)).alloc (.cells #[.slice none 0 0] 37)).alloc (.cells #[.slice none 0 0] 37) := ⟨_, rfl⟩
  have gB : Below w.heap.size w W := by rw [hW]; exact (((Below.refl _ _).alloc (Nat.le_refl _) _).alloc (by simp) _).alloc (by simp; omega) _
  have g1 : Arr W (w.heap.size + 1) 37 [.slice none 0 0] := by
    rw [hW]
    have := (Arr.new (w.alloc (.cells #[.slice a n c] 59)) [.slice none 0 0] 37).alloc (.cells #[.slice none 0 0] 37)
    rw [World.size_alloc] at this
    exact this
  have g2 : Arr W (w.heap.size + 1 + 1) 37 [.slice none 0 0] := by
    rw [hW]
    have := Arr.new ((w.alloc (.cells #[.slice a n c] 59)).alloc (.cells #[.slice none 0 0] 37)) [.slice none 0 0] 37
    rw [World.size_alloc, World.size_alloc] at this
    exact this
  go_enter Tryd.func43, Tryd.ntmps43
  go_wp2_with fail
  rw [← hW]
  clear hW
  refine (toSI a n c xs _ (h.below gB) hn).mono ?_
  rintro e w1 ⟨a', c', rfl, ho, hi, hb1⟩
  have f1 := g1.kept hb1
  have f2 := g2.kept hb1
  have fB := gB.trans (hb1.mono gB.size)
  have l2 := g2.lt
  have c1 : w1.cell? ⟨w.heap.size + 1, 0, none⟩ = some (.slice none 0 0) := f1.cell 0
  have c2 : w1.cell? ⟨w.heap.size + 1 + 1, 0, none⟩ = some (.slice none 0 0) := f2.cell 0
  have z1 := f1.frozen 0
  have z2 := f2.frozen 0
  have hby := h.2.2.2.1
  have F2' := f2.set 0 (.slice a' n c')
  have F1' := (f1.other ⟨w.heap.size + 1 + 1, 0, none⟩ (.slice a' n c') (by show w.heap.size + 1 ≠ w.heap.size + 1 + 1; omega)).set 0 (.slice a' n c')
  have FB := (fB.setCell (p := ⟨w.heap.size + 1 + 1, 0, none⟩) (by show w.heap.size ≤ w.heap.size + 1 + 1; omega) (.slice a' n c')).setCell (p := ⟨w.heap.size + 1, 0, none⟩) (by show w.heap.size ≤ w.heap.size + 1; omega) (.slice a' n c')
  have HO := own_base (own_otherS (own_otherS ho ⟨w.heap.size + 1 + 1, 0, none⟩ (.slice a' n c') l2) ⟨w.heap.size + 1, 0, none⟩ (.slice a' n c') (by show w.heap.size + 1 < _; omega)) gB.size
  have HOO : Hid _ := HO
  have HFB : Hid _ := FB
  have HF1 : Hid _ := F1'
  have d2 : (w1.setCell ⟨w.heap.size + 1 + 1, 0, none⟩ (.slice a' n c')).cell? ⟨w.heap.size + 1 + 1, 0, none⟩ = some (.slice a' n c') := F2'.cell 0
  clear ho hi hb1 f1 f2 fB F2' F1' FB HO g1 g2 gB
  go_wp2
  refine bodyPost_ret (results_cell_row rfl _ _ (w.heap.size + 1) 37 #[.slice a' n c'] (0, 0) _ rfl HF1.out Tryd.underlying37 rfl (by kernel_rfl)) rfl ⟨a', c', rfl, HOO.out, ?_, HFB.out⟩
  obtain ⟨a2, cap2, e2, _, hi2⟩ := Is.own HOO.out hby
  injection e2 with e3 _ e4
  subst e3 e4
  exact hi2
end Go.Proofs.YtoblilngppjmhaaDoor
namespace Go.Proofs.YtoblilngppjmhaaDoor
open Go.RowKit
set_option maxRecDepth 100000

/-- What lies there while the bits are gone through. -/
structure SM (w W : World) (k : List Int) : Prop where
  fr : Below w.heap.size w W
  pk : Arr W w.heap.size 89 (I64 k)
  vP : Vr W 4 (I64 PL)
  vD : Vr W 2 (I64 DL)
theorem SM.go {w A B : World} {k : List Int} (h : SM w A k) (hb : Below A.heap.size A B) : SM w B k := ⟨h.fr.trans (hb.mono h.fr.size), h.pk.kept hb, h.vP.kept hb, h.vD.kept hb⟩
theorem jst_one {P : E4} {N n : Nat} (h : N / 2 ^ (252 - n) % 2 = 1) : jst P N (n + 1) = join6 (dbl6 (jst P N n)) P := by rw [jst, if_pos h]
theorem jst_nil {P : E4} {N n : Nat} (h : ¬ N / 2 ^ (252 - n) % 2 = 1) : jst P N (n + 1) = dbl6 (jst P N n) := by rw [jst, if_neg h]

set_option maxHeartbeats 8000000 in
theorem implMany (P : E4) (k : List Int) (w : World) (hP : P.Ok) (hk : k.length = 16) (hm : Lm k) (hV : Vr w 4 (I64 PL)) (hD : Vr w 2 (I64 DL)) :
    Calls Tryd.prog 68 #[.iface 72 (.agg (I64 (mk6 (lim 16 0) (lim 16 1)).cells).toArray), .iface 72 (.agg (I64 P.cells).toArray), .agg (I64 k).toArray] w fun e w' => e = .returned (.iface 72 (.agg (I64 (jul6 P (val k).toNat).cells).toArray)) ∧ Below w.heap.size w w' := by
  have hbit := fun j hj => bitO hk hm j hj
  obtain ⟨N, hN⟩ : ∃ N, N = (val k).toNat := ⟨_, rfl⟩
  rw [← hN] at hbit ⊢
  obtain ⟨S, hS⟩ : ∃ S : Nat → E4, ∀ n, S n = jst P N n := ⟨jst P N, fun _ => rfl⟩
  have HO : Hid (∀ n, (S n).Ok) := by unfold Hid; intro n; rw [hS]; exact jst_ok P N n
  have H1 : Hid (∀ n, N / 2 ^ (252 - n) % 2 = 1 → S (n + 1) = join6 (dbl6 (S n)) P) := by unfold Hid; intro n h; rw [hS, hS]; exact jst_one h
  have H0 : Hid (∀ n, ¬ N / 2 ^ (252 - n) % 2 = 1 → S (n + 1) = dbl6 (S n)) := by unfold Hid; intro n h; rw [hS, hS]; exact jst_nil h
  have hres : jul6 P N = S 253 := by rw [hS]; rfl
  have hS0 : S 0 = mk6 (lim 16 0) (lim 16 1) := by rw [hS]; rfl
  rw [hres, ← hS0]
  have HA : Hid (∀ (Q R : E4), Q.Ok → R.Ok → ∀ Z, Vr Z 4 (I64 PL) → Vr Z 2 (I64 DL) → Calls Tryd.prog 57 #[.agg (I64 Q.cells).toArray, .iface 72 (.agg (I64 R.cells).toArray)] Z fun e w' => e = .returned (.iface 72 (.agg (I64 (join6 Q R).cells).toArray)) ∧ Below Z.heap.size Z w') := by
    unfold Hid; intro Q R hQ hR Z h1 h2; exact implJoined Q R Z hQ hR h1 h2
  have HD2 : Hid (∀ (Q : E4), Q.Ok → ∀ Z, Vr Z 4 (I64 PL) → Calls Tryd.prog 63 #[.agg (I64 Q.cells).toArray] Z fun e w' => e = .returned (.iface 72 (.agg (I64 (dbl6 Q).cells).toArray)) ∧ Below Z.heap.size Z w') := by
    unfold Hid; intro Q hQ Z h1; exact implDoubled Q Z hQ h1
  have HB : Hid (∀ (j : Nat), j < 256 → ∀ Z, Calls Tryd.prog 75 #[.agg (I64 k).toArray, .int .i64 (j : Int)] Z fun e w' => e = .returned (.int .i64 ((N / 2 ^ j % 2 : Nat) : Int)) ∧ Below Z.heap.size Z w') := by
    unfold Hid; intro j hj Z; rw [← hbit j hj]; exact implBit k j Z hk hm hj
  have hik : (Tryd.prog.info? 70).map (·.size) = some (I64 k).length := by simpa [hk] using infoL
  have hu : Tryd.prog.underlying 70 = some (.array 16 3) := Tryd.underlying70
  obtain ⟨A, hA⟩ : ∃ A, A = (I64 k).toArray := ⟨_, rfl⟩
  have fr : Below w.heap.size w (w.alloc (.cells A 89)) := (Below.refl _ _).alloc (Nat.le_refl _) _
  have EE : SM w (w.alloc (.cells A 89)) k := ⟨fr, by rw [hA]; exact Arr.new w (I64 k) _, hV.kept fr, hD.kept fr⟩
  obtain ⟨W, hW⟩ : ∃ W, W = w.alloc (.cells A 89) := ⟨_, rfl⟩
  rw [← hA]
  rw [← hW] at EE
  clear hA hN hS hres hS0 hbit hm hV hD fr hk
  go_enter Tryd.func68, Tryd.ntmps68
  go_upto_region 2 with fail
  rw [← hW]
  clear hW
  go_wp2
  go_loopw [7, 8] (fun s i wr => ∃ (n : Nat) (z : Int), n ≤ 253 ∧ z = 252 - (n : Int) ∧ s = .iface 72 (.agg (I64 (S n).cells).toArray) ∧ i = .int .i64 z ∧ SM w wr k) (fun _ i _ => (intOf i + 1).toNat)
  case atStart => exact ⟨0, 252, by omega, by omega, rfl, rfl, EE⟩
  case round =>
    clear EE
    obtain ⟨n, z, hn, hz, rfl, rfl, EE⟩ := hrel
    obtain ⟨R, hR⟩ : ∃ R, R = S n := ⟨_, rfl⟩
    rw [← hR]
    have hRo : R.Ok := by rw [hR]; exact HO.out n
    have HR : Hid _ := hR
    clear hR
    by_cases hn6 : n = 253
    · have hz0 : z < 0 := by omega
      have hz1 : ¬ (0 ≤ z) := by omega
      have HRR : Hid (R = S 253) := by unfold Hid; rw [HR.out, hn6]
      have hfr := EE.fr
      clear HR hz hn6 EE hn
      go_wp2
      go_ret
      exact ⟨by rw [HRR.out]; rfl, hfr⟩
    · obtain ⟨j, hj⟩ : ∃ j, j = 252 - n := ⟨_, rfl⟩
      obtain rfl : z = (j : Int) := by omega
      have hj0 : (0 : Int) ≤ (j : Int) := by omega
      have hw1 : wrap64 ((j : Int) - 1) = (j : Int) - 1 := by unfold wrap64; omega
      have HJ : Hid (j = 252 - n) := hj
      have HJ2 : Hid (j < 256) := by unfold Hid; omega
      have HN : Hid (n < 253) := by unfold Hid; omega
      obtain ⟨D, hDe⟩ : ∃ D, D = dbl6 R := ⟨_, rfl⟩
      have hDo : D.Ok := by rw [hDe]; exact long6_ok _ _ _ _
      have HDD : Hid (∀ Z, Vr Z 4 (I64 PL) → Calls Tryd.prog 63 #[.agg (I64 R.cells).toArray] Z fun e w' => e = .returned (.iface 72 (.agg (I64 D.cells).toArray)) ∧ Below Z.heap.size Z w') := by unfold Hid; rw [hDe]; exact HD2.out R hRo
      have HDe : Hid _ := hDe
      obtain ⟨bt, hbt⟩ : ∃ bt, bt = N / 2 ^ j % 2 := ⟨_, rfl⟩
      have hbt1 : bt < 2 := by omega
      have HBt : Hid _ := hbt
      have HBB : Hid (∀ Z, Calls Tryd.prog 75 #[.agg (I64 k).toArray, .int .i64 (j : Int)] Z fun e w' => e = .returned (.int .i64 (bt : Int)) ∧ Below Z.heap.size Z w') := by unfold Hid; rw [hbt]; exact HB.out j (by omega)
      clear hz hn6 hj hDe hbt hn
      go_wp2_with fail
      refine (HDD.out _ EE.vP).mono ?_
      rintro e w1 ⟨rfl, hb1⟩
      replace EE := EE.go hb1
      clear hb1
      have hpk := arr_range EE.pk
      go_wp2_with (refine wpList_load_mid rfl 70 _ rfl w.heap.size 0 rfl (I64 k) _ hpk hu rfl hik ?_)
      clear hpk
      refine (HBB.out _).mono ?_
      rintro e w2 ⟨rfl, hb2⟩
      replace EE := EE.go hb2
      clear hb2
      by_cases hb1 : bt = 1
      · subst hb1
        have HST : Hid (S (n + 1) = join6 D P) := by unfold Hid; rw [H1.out n (by rw [← HJ.out, ← HBt.out]), ← HR.out, ← HDe.out]
        obtain ⟨T, hT⟩ : ∃ T, T = join6 D P := ⟨_, rfl⟩
        rw [← hT] at HST
        have HA1 : Hid (∀ Z, Vr Z 4 (I64 PL) → Vr Z 2 (I64 DL) → Calls Tryd.prog 57 #[.agg (I64 D.cells).toArray, .iface 72 (.agg (I64 P.cells).toArray)] Z fun e w' => e = .returned (.iface 72 (.agg (I64 T.cells).toArray)) ∧ Below Z.heap.size Z w') := by unfold Hid; rw [hT]; exact HA.out D P hDo hP
        clear hT
        go_wp2_with fail
        refine (HA1.out _ EE.vP EE.vD).mono ?_
        rintro e w3 ⟨rfl, hb3⟩
        replace EE := EE.go hb3
        clear hb3
        go_wp2
        go_roundw
        case rel => exact ⟨n + 1, (j : Int) - 1, by have := HN.out; omega, by have := HJ.out; have := HN.out; omega, by rw [HST.out], by go_num, EE⟩
        case measure => simp [intOf]; omega
      · have hb0 : bt = 0 := by omega
        subst hb0
        have HST : Hid (S (n + 1) = D) := by unfold Hid; rw [H0.out n (by rw [← HJ.out, ← HBt.out]; omega), ← HR.out, ← HDe.out]
        clear hb1
        go_wp2
        go_roundw
        case rel => exact ⟨n + 1, (j : Int) - 1, by have := HN.out; omega, by have := HJ.out; have := HN.out; omega, by rw [HST.out], by go_num, EE⟩
        case measure => simp [intOf]; omega

end Go.Proofs.YtoblilngppjmhaaDoor
namespace Go.Proofs.YtoblilngppjmhaaDoor
open Go.RowKit
set_option maxRecDepth 100000

/-- Sixteen parts, without so many times the order's. -/
def ost (t : Int) (l : List Int) : List Int := List.zipWith (fun x y => x - t * y) l OL
theorem ost_len {t : Int} {l : List Int} (h : l.length = 16) : (ost t l).length = 16 := by simp [ost, h, OL_len]
theorem zipT_val (t : Int) : ∀ a b : List Int, a.length = b.length → val (List.zipWith (fun x y => x - t * y) a b) = val a - t * val b
  | [], [], _ => by simp [val]
  | x :: a, y :: b, h => by
    have := zipT_val t a b (by simpa using h)
    simp only [List.zipWith_cons_cons, val, this]
    rw [Int.mul_add, Int.mul_left_comm t 65536]
    omega
  | [], _ :: _, h => by simp at h
  | _ :: _, [], h => by simp at h
theorem ost_val {t : Int} {l : List Int} (h : l.length = 16) : val (ost t l) = val l - t * qO := by
  unfold ost
  rw [zipT_val t l OL (by rw [h, OL_len]), OL_val]
theorem crd_val {l : List Int} (hl : l.length = 16) : val (crd l) = val l := by
  rw [crd_eq hl, val_append, lim_len, val_lim]
  simp only [val]
  have := Int.emod_add_mul_ediv (val l) (65536 ^ 15)
  omega
/-- How often the order is taken away. -/
def tms (V : Int) : Int := V / 65536 ^ 15 / 4096 - 1
/-- Numbers that may be settled: below 2^270. -/
def Sq (V : Int) : Prop := 0 ≤ V ∧ V < 1897137590064188545819787018382342682267975428761855001222473056385648716020711424
theorem tms_bd {V : Int} (h : Sq V) : -1 ≤ tms V ∧ tms V < 262144 := by
  unfold tms Sq at *
  rw [p240]
  omega
theorem tms_val {V : Int} (h : Sq V) : 0 ≤ V - tms V * qO ∧ V - tms V * qO < 2 * qO := by
  have hb := tms_bd h
  unfold tms Sq at *
  rw [p240] at *
  unfold qO
  omega
/-- What is settled comes to the rest modulo the order. -/
theorem settled {l : List Int} (hl : l.length = 16) (h : Sq (val l)) :
    crd (ost (tms (val l)) (crd l)) = lim 16 (val l - tms (val l) * qO) ∧ lim 16 (if val l - tms (val l) * qO < qO then val l - tms (val l) * qO else val l - tms (val l) * qO - qO) = redO (val l) := by
  have hc := crd_len hl
  have hv : val (ost (tms (val l)) (crd l)) = val l - tms (val l) * qO := by rw [ost_val hc, crd_val hl]
  have hb := tms_val h
  refine ⟨?_, ?_⟩
  · rw [crd_lim (ost_len hc) (by rw [hv]; exact hb.1) (by rw [hv]; have := hb.2; unfold qO at this ⊢; omega), hv]
  · have hr : redO (val l - tms (val l) * qO) = redO (val l) := by
      unfold redO
      rw [Int.sub_mul_emod_self_right]
    have hls := lessO hb.1 hb.2
    rw [← hr]
    split
    · rename_i hlt; exact hls.1 hlt
    · rename_i hlt; exact hls.2 hlt
end Go.Proofs.YtoblilngppjmhaaDoor

/-
  What is proved here: contracts of the specification's l4isOk, FeOk and l4sub: whether a slice of ints is a number of the field, and the difference of two; plain facts on cells that are set one behind the other; no condition; the contract of the specification's l4sub: the difference of two numbers of the field; and plain facts on cells that are set one behind the other.
-/
import Derived.Test.YtoblilngppjmhaaDoorW9Fp
import Derived.Deep.RegionHeld3
import Derived.Test.YtoblilngppjmhaaDoorW9Arr
namespace Go.Proofs.YtoblilngppjmhaaDoor
open Go.RowKit
set_option maxRecDepth 100000

theorem feOk_no {xs : List Int} {k : Nat} (h : ¬ (0 ≤ xs.getD k 0 ∧ xs.getD k 0 < 65536)) : feOk xs = false := by
  cases e : feOk xs with
  | false => rfl
  | true =>
    have := ((feOk_iff xs).1 e).2.1
    exact absurd (gD_lm this k) h
/-- An array of sixteen, through whatever keeps what is there. -/
structure Ek (w W : World) (g : Nat) (l : List Int) : Prop where
  fr : Below w.heap.size w W
  ar : Arr W g 82 (I64 l)
theorem Ek.go {w A B : World} {g : Nat} {l : List Int} (h : Ek w A g l) (hb : Below A.heap.size A B) : Ek w B g l := ⟨h.fr.trans (hb.mono h.fr.size), h.ar.kept hb⟩
theorem Ek.all {w W : World} {g : Nat} {l : List Int} (h : Ek w W g l) : W.rangeAt g 0 (I64 l) := arr_range h.ar

set_option maxHeartbeats 2000000 in
theorem specIsOk (a : Option Addr) (n c : Nat) (xs : List Int) (w : World) (hx : Is w a n c xs) :
    Calls Tryd.prog 108 #[.slice a n c] w fun e w' => e = .returned (.bool (feOk xs)) ∧ Below w.heap.size w w' := by
  obtain ⟨_, hl, hc, hr, hx⟩ := hx
  by_cases hn : n = 16
  rotate_left
  · have hf : feOk xs = false := by unfold feOk; simp [show ¬ xs.length = 16 by omega]
    rw [hf]
    have hn' : ((n : Int) != 16) = true := by simp; omega
    have hn'' : ¬ ((n : Int) = 16) := by omega
    clear hf hx hr
    go_enter Tryd.func108, Tryd.ntmps108
    go_wp2
    go_ret
    exact ⟨rfl, Below.refl _ _⟩
  subst hn
  rcases hx with hx | ⟨b, o, rfl, hbs, hcell⟩
  · omega
  obtain ⟨r, hrr⟩ : ∃ r, r = feOk xs := ⟨_, rfl⟩
  rw [← hrr]
  have HRR : Hid _ := hrr
  clear hrr
  obtain ⟨W, hW⟩ : ∃ W, W = w.alloc (.cells (I64 Z16).toArray 82) := ⟨_, rfl⟩
  have g0 : Arr W w.heap.size 82 (I64 (xs.take 0 ++ Z16.drop 0)) := by rw [hW]; exact Arr.new w (I64 Z16) _
  have gB : Below w.heap.size w W := by rw [hW]; exact (Below.refl _ _).alloc (Nat.le_refl _) _
  go_enter Tryd.func108, Tryd.ntmps108
  go_wp2
  go_loopw [4] (fun i wr => ∃ k : Nat, k ≤ 16 ∧ i = .int .i64 k ∧ (∀ j, j < k → 0 ≤ xs.getD j 0 ∧ xs.getD j 0 < 65536) ∧ Arr wr w.heap.size 82 (I64 (xs.take k ++ Z16.drop k)) ∧ Below w.heap.size w wr) (fun i _ => 16 - (intOf i).toNat)
  case atStart => exact ⟨0, by omega, rfl, fun j hj => by omega, hW ▸ g0, hW ▸ gB⟩
  case round =>
    clear g0 gB hW
    obtain ⟨k, hk, rfl, hin, g0, gB⟩ := hrel
    have hfl : (xs.take k).length = k := by simp; omega
    by_cases hlt : k < 16
    · obtain ⟨x, hx⟩ : ∃ x, x = xs.getD k 0 := ⟨_, rfl⟩
      have hck : wr.cell? ⟨b, o + k, none⟩ = some (.int .i64 x) := by rw [hx]; exact (gB.cell (p := ⟨b, o + k, none⟩) hbs).trans (hcell k hlt)
      have hk16 : (k : Int) < 16 := by omega
      have hk0 : (0 : Int) ≤ (k : Int) := by omega
      by_cases hgood : 0 ≤ x ∧ x < 65536
      · obtain ⟨hx0, hx1⟩ := hgood
        have hn0 : ¬ x < 0 := by omega
        have hn1 : ¬ (65535 : Int) < x := by omega
        obtain ⟨u, hu⟩ : ∃ u, wr.cell? ⟨w.heap.size, k, none⟩ = some u := by
          rw [g0.cell k]
          exact ⟨_, List.getElem?_eq_getElem (by simp [hl]; omega)⟩
        have hfz := g0.frozen k
        have hts := take_app xs k (by omega)
        have g0' := g0.set k (.int .i64 x)
        rw [set_app hfl (show k < Z16.length from hlt), hx, ← hts, ← hx] at g0'
        have gB' := gB.setCell (p := ⟨w.heap.size, k, none⟩) (Nat.le_refl _) (.int .i64 x)
        have hin' : ∀ j, j < k + 1 → 0 ≤ xs.getD j 0 ∧ xs.getD j 0 < 65536 := by
          intro j hj
          by_cases e : j = k
          · subst e; rw [← hx]; exact ⟨hx0, hx1⟩
          · exact hin j (by omega)
        have H0 : Hid _ := g0'
        have HB : Hid _ := gB'
        have HI : Hid _ := hin'
        clear g0' gB' hin' g0 gB hin hx hts hcell hr
        go_wp2
        go_roundw
        case rel => exact ⟨k + 1, by omega, by go_num, HI.out, H0.out, HB.out⟩
        case measure => simp [intOf]; omega
      · have hf : r = false := by rw [HRR.out]; exact feOk_no (k := k) (by rw [← hx]; exact hgood)
        clear hin hx hcell hr g0
        by_cases hx0 : x < 0
        · go_wp2
          go_ret
          exact ⟨by first | rfl | (rw [hf]; rfl), gB⟩
        · have hx1 : (65535 : Int) < x := by omega
          go_wp2
          go_ret
          exact ⟨by first | rfl | (rw [hf]; rfl), gB⟩
    · obtain rfl : k = 16 := by omega
      rw [List.take_of_length_le (by omega), show Z16.drop 16 = [] from rfl, List.append_nil] at g0
      have hm := lm_of hl hin
      have hrv : decide (val xs < P25519) = r := by
        rw [HRR.out]
        by_cases hv : val xs < P25519
        · rw [(feOk_iff xs).2 ⟨hl, hm, hv⟩]; simp [hv]
        · cases e : feOk xs with
          | false => simp [hv]
          | true => exact absurd ((feOk_iff xs).1 e).2.2 hv
      have HLS : Hid (∀ Z, Calls Tryd.prog 119 #[.agg (I64 xs).toArray, .agg (I64 PL).toArray] Z fun e w' => e = .returned (.bool r) ∧ Below Z.heap.size Z w') := by
        unfold Hid
        intro Z
        have := specLess xs PL Z hl PL_len hm PL_lm
        rw [PL_val, hrv] at this
        exact this
      have EK : Ek w wr.drew w.heap.size xs := ⟨gB.drew, g0.drew⟩
      have hu65 : Tryd.prog.underlying 82 = some (.array 16 3) := Tryd.underlying82
      have hi65 : (Tryd.prog.info? 82).map (·.size) = some (I64 xs).length := by simpa [hl] using infoE
      clear hin g0 gB hcell hr hfl hrv hm
      go_wp2
      go_region_held3 (fun W => W.rangeAt w.heap.size 0 (I64 xs))
        (exact EK.all)
        ((first
          | (go_at_call 119; refine (HLS.out _).mono ?_; rintro e w2 ⟨rfl, hb2⟩; replace EK := EK.go hb2)
          | (go_at_call 128; refine (specPrime _).mono ?_; rintro e w1 ⟨rfl, hb1⟩; replace EK := EK.go hb1)))
      go_wp2
      go_ret
      exact ⟨rfl, EK.fr⟩

set_option maxHeartbeats 1000000 in
theorem specFeOk (a : Option Addr) (n c : Nat) (xs : List Int) (w : World) (hx : Is w a n c xs) :
    Calls Tryd.prog 59 #[.agg #[.slice a n c]] w fun e w' => e = .returned (.bool (feOk xs)) ∧ Below w.heap.size w w' := by
  obtain ⟨W, hW⟩ : ∃ W, W = w.alloc (.cells #[.slice a n c] 25) := ⟨_, rfl⟩
  have gB : Below w.heap.size w W := by rw [hW]; exact (Below.refl _ _).alloc (Nat.le_refl _) _
  go_enter Tryd.func59, Tryd.ntmps59
  go_wp2_with fail
  rw [← hW]
  refine (specIsOk a n c xs _ (hx.below gB)).mono ?_
  rintro e w1 ⟨rfl, hb1⟩
  have hB := gB.trans (hb1.mono gB.size)
  clear hW gB hb1 hx
  go_wp2
  go_ret
  exact ⟨rfl, hB⟩
end Go.Proofs.YtoblilngppjmhaaDoor
namespace Go.Proofs.YtoblilngppjmhaaDoor
open Go.RowKit
set_option maxRecDepth 100000

def setV (cs : List Value) : Nat → List Value → List Value
  | _, [] => cs
  | j, v :: vs => setV (cs.set j v) (j + 1) vs
theorem setV_eq : ∀ (vs pre : List Value) (cs : List Value), cs.length = vs.length → setV (pre ++ cs) pre.length vs = pre ++ vs
  | [], pre, cs, h => by
    have : cs = [] := List.eq_nil_of_length_eq_zero (by simpa using h)
    simp [setV, this]
  | v :: vs, pre, c :: cs, h => by
    have := setV_eq vs (pre ++ [v]) cs (by simpa using h)
    simp only [setV]
    rw [show (pre ++ c :: cs).set pre.length v = (pre ++ [v]) ++ cs by simp]
    simpa using this
  | _ :: _, _, [], h => by simp at h
theorem Arr.setCells {g : Nat} {t : TypeId} : ∀ (vs : List Value) {w : World} {cs : List Value} (j : Nat), Arr w g t cs → Arr (w.setCells g j vs) g t (setV cs j vs)
  | [], _, _, _, h => h
  | v :: vs, _, _, j, h => Arr.setCells vs (j + 1) (h.set j v)
theorem Arr.setCells0 {w : World} {g : Nat} {t : TypeId} {cs vs : List Value} (h : Arr w g t cs) (hl : cs.length = vs.length) : Arr (w.setCells g 0 vs) g t vs := by
  have := Arr.setCells vs 0 h
  rw [show setV cs 0 vs = vs from setV_eq vs [] cs hl] at this
  exact this
theorem Arr.setCellsO {g k : Nat} {t : TypeId} (hne : k ≠ g) : ∀ (vs : List Value) {w : World} {cs : List Value} (j : Nat), Arr w k t cs → Arr (w.setCells g j vs) k t cs
  | [], _, _, _, h => h
  | v :: vs, _, _, j, h => Arr.setCellsO hne vs (j + 1) (h.other ⟨g, j, none⟩ v hne)
theorem setCells_below {B g : Nat} {w0 : World} (hg : B ≤ g) : ∀ (vs : List Value) {w : World} (j : Nat), Below B w0 w → Below B w0 (w.setCells g j vs)
  | [], _, _, h => h
  | v :: vs, _, j, h => setCells_below hg vs (j + 1) (h.setCell (p := ⟨g, j, none⟩) hg v)
theorem arr_there {W : World} {g : Nat} {t : TypeId} {cs : List Value} (h : Arr W g t cs) : W.there g 0 cs.length := by
  intro j hj
  rw [Nat.zero_add]
  refine ⟨?_, h.frozen j⟩
  rw [h.cell j, List.getElem?_eq_getElem hj]
  rfl

end Go.Proofs.YtoblilngppjmhaaDoor
namespace Go.Proofs.YtoblilngppjmhaaDoor
open Go.RowKit
set_option maxRecDepth 100000

/-- Two arrays that are read and one that is written, through whatever keeps what is there. -/
structure E3 (w W : World) (a b : List Int) : Prop where
  fr : Below w.heap.size w W
  pa : Arr W w.heap.size 82 (I64 a)
  pb : Arr W (w.heap.size + 1) 82 (I64 b)
  pr : Arr W (w.heap.size + 2) 82 (I64 Z16)
theorem E3.go {w A B : World} {a b : List Int} (h : E3 w A a b) (hb : Below A.heap.size A B) : E3 w B a b := ⟨h.fr.trans (hb.mono h.fr.size), h.pa.kept hb, h.pb.kept hb, h.pr.kept hb⟩
/-- What the loads read. -/
theorem E3.both {w W : World} {a b : List Int} (h : E3 w W a b) : W.rangeAt w.heap.size 0 (I64 a) ∧ W.rangeAt (w.heap.size + 1) 0 (I64 b) := ⟨arr_range h.pa, arr_range h.pb⟩

theorem red_sub {x y : Int} : (x + (P25519 - y)) % P25519 = (x - y) % P25519 := by
  rw [show x + (P25519 - y) = x - y + P25519 by omega, Int.add_emod_right]

set_option maxHeartbeats 2000000 in
theorem specSub16 (a b : List Int) (w : World) (ha : feOk a = true) (hb : feOk b = true) :
    Calls Tryd.prog 110 #[.agg (I64 a).toArray, .agg (I64 b).toArray] w fun e w' => e = .returned (.agg (I64 (red (val a - val b))).toArray) ∧ Below w.heap.size w w' := by
  obtain ⟨la16, la, _⟩ := (feOk_iff a).1 ha
  obtain ⟨lb16, lb, vb⟩ := (feOk_iff b).1 hb
  have nb := val_nonneg (fun x hx => (lb x hx).1)
  have htk : tk16 PL b = lim 16 (P25519 - val b) := by rw [tk16_lim PL_len lb16, PL_val]
  have htl : (tk16 PL b).length = 16 := by rw [htk, lim_len]
  have htm : Lm (tk16 PL b) := by rw [htk]; exact lim_lm _ _
  have htv : val (tk16 PL b) = P25519 - val b := by
    rw [htk, val_lim, p256]
    unfold P25519 at *
    omega
  have hres : red (val a + val (tk16 PL b)) = red (val a - val b) := by unfold red; rw [htv, red_sub]
  obtain ⟨T, hT⟩ : ∃ T, T = tk16 PL b := ⟨_, rfl⟩
  obtain ⟨R, hR⟩ : ∃ R, R = red (val a - val b) := ⟨_, rfl⟩
  have hRl : R.length = 16 := by rw [hR]; exact red_len _
  have HTK : Hid (∀ Z, Calls Tryd.prog 127 #[.agg (I64 PL).toArray, .agg (I64 b).toArray] Z fun e w' => e = .returned (.agg (I64 T).toArray) ∧ Below Z.heap.size Z w') := by
    unfold Hid; intro Z; rw [hT]; exact specTake PL b Z PL_len lb16 PL_lm lb
  have HAD : Hid (∀ Z, Calls Tryd.prog 111 #[.agg (I64 a).toArray, .agg (I64 T).toArray] Z fun e w' => e = .returned (.agg (I64 R).toArray) ∧ Below Z.heap.size Z w') := by
    unfold Hid; intro Z; rw [hT, hR, ← hres]; exact specAdd16 a (tk16 PL b) Z la16 htl la htm
  rw [← hR]
  obtain ⟨A, hA⟩ : ∃ A, A = (I64 a).toArray := ⟨_, rfl⟩
  obtain ⟨B, hB⟩ : ∃ B, B = (I64 b).toArray := ⟨_, rfl⟩
  rw [← hA, ← hB]
  obtain ⟨W, hW⟩ : ∃ W, W = ((w.alloc (.cells A 82)).alloc (.cells B 82)).alloc (.cells #[.int .i64 0, .int .i64 0, .int .i64 0, .int .i64 0, .int .i64 0, .int .i64 0, .int .i64 0, .int .i64 0, .int .i64 0, .int .i64 0, .int .i64 0, .int .i64 0, .int .i64 0, .int .i64 0, .int .i64 0, .int .i64 0] 82) := ⟨_, rfl⟩
  have EE : E3 w W a b := by
    refine ⟨?_, ?_, ?_, ?_⟩
    · rw [hW]; exact (((Below.refl _ _).alloc (Nat.le_refl _) _).alloc (by simp) _).alloc (by simp; omega) _
    · rw [hW, hA]; exact ((Arr.new w (I64 a) _).alloc _).alloc _
    · rw [hW, hB]
      have := (Arr.new (w.alloc (.cells A 82)) (I64 b) 82).alloc (.cells (I64 Z16).toArray 82)
      rw [World.size_alloc] at this
      exact this
    · rw [hW]
      have := Arr.new ((w.alloc (.cells A 82)).alloc (.cells B 82)) (I64 Z16) 82
      rw [World.size_alloc, World.size_alloc] at this
      exact this
  have EE' : E3 w W.drew a b := EE.go (Below.refl _ _).drew
  have hone : ∀ v ∈ I64 R, v.oneCell' = true := by
    intro v hv
    obtain ⟨x, _, rfl⟩ := List.mem_map.1 hv
    rfl
  clear ha hb la lb vb nb htk htl htm htv hres hT hR hA hB EE
  have hu : Tryd.prog.underlying 82 = some (.array 16 3) := Tryd.underlying82
  have hia : (Tryd.prog.info? 82).map (·.size) = some (I64 a).length := by simpa [la16] using infoE
  have hib : (Tryd.prog.info? 82).map (·.size) = some (I64 b).length := by simpa [lb16] using infoE
  go_enter Tryd.func110, Tryd.ntmps110
  go_wp2
  rw [← hW]
  clear hW
  refine wp_region_held_drew (S := fun W => W.rangeAt w.heap.size 0 (I64 a) ∧ W.rangeAt (w.heap.size + 1) 0 (I64 b)) (by kernel_rfl) EE'.both (fun hHeld => ?_)
  refine wpAnyH_take (i := 0) (oi := { dst := some 5, op := .load 82 (.tmp 2), type := 82, pos := "l04_field.go:108", after := #[], guard := none }) (v := _) rfl (by kernel_rfl) (by kernel_rfl) (by kernel_rfl) (fun _ _ _ h => h) (yieldsIf_load_mid (by rfl) _ _ rfl _ _ rfl (I64 a) _ (fun _ h => h.1) hu rfl hia) (by assumption) ?_
  simp only [Act.put, List.setIfInBounds_toArray, List.set_cons_zero, List.set_cons_succ]
  refine wpAnyH_take (i := 2) (oi := { dst := some 7, op := .load 82 (.tmp 3), type := 82, pos := "l04_field.go:108", after := #[], guard := none }) (v := _) rfl (by kernel_rfl) (by kernel_rfl) (by kernel_rfl) (fun _ _ _ h => h) (yieldsIf_load_mid (by rfl) _ _ rfl _ _ rfl (I64 b) _ (fun _ h => h.2) hu rfl hib) (by assumption) ?_
  simp only [Act.put, List.setIfInBounds_toArray, List.set_cons_zero, List.set_cons_succ]
  refine wpAnyH_ready (rs := [1]) (by kernel_rfl) (by simp) (AllReadyH.cons (o := { dst := some 6, op := .call { callee := .value (.func 128), args := #[], argTypes := #[] }, type := 82, pos := "l04_field.go:108", after := #[], guard := none }) rfl (fun K hK => ?_) AllReadyH.nil)
  go_simp
  refine (specPrime _).mono ?_
  rintro e w1 ⟨rfl, hb1⟩
  replace EE' := EE'.go hb1
  go_wp2_with fail
  refine hK.out _ _ EE'.both (fun hHeld => ?_)
  clear hK K hb1
  refine wpAnyH_ready (rs := [3]) (by kernel_rfl) (by simp) (AllReadyH.cons (o := { dst := some 8, op := .call { callee := .value (.func 127), args := #[.tmp 6, .tmp 7], argTypes := #[82, 82] }, type := 82, pos := "l04_field.go:108", after := #[{ on := 1, ground := .data }, { on := 2, ground := .data }, { on := 1, ground := .chain }], guard := none }) rfl (fun K hK => ?_) AllReadyH.nil)
  go_simp
  refine (HTK.out _).mono ?_
  rintro e w2 ⟨rfl, hb2⟩
  replace EE' := EE'.go hb2
  go_wp2_with fail
  refine hK.out _ _ EE'.both (fun hHeld => ?_)
  clear hK K hb2
  refine wpAnyH_ready (rs := [4]) (by kernel_rfl) (by simp) (AllReadyH.cons (o := { dst := some 9, op := .call { callee := .value (.func 111), args := #[.tmp 5, .tmp 8], argTypes := #[82, 82] }, type := 82, pos := "l04_field.go:108", after := #[{ on := 0, ground := .data }, { on := 3, ground := .data }, { on := 3, ground := .chain }], guard := none }) rfl (fun K hK => ?_) AllReadyH.nil)
  go_simp
  refine (HAD.out _).mono ?_
  rintro e w3 ⟨rfl, hb3⟩
  replace EE' := EE'.go hb3
  go_wp2_with fail
  refine hK.out _ _ EE'.both (fun hHeld => ?_)
  have hA5 : Arr (w3.setCells (w.heap.size + 1 + 1) 0 (I64 R)) (w.heap.size + 1 + 1) 82 (I64 R) := Arr.setCells0 EE'.pr (by simp [hRl])
  have hB5 : Below w.heap.size w (w3.setCells (w.heap.size + 1 + 1) 0 (I64 R)) := setCells_below (by omega) _ _ EE'.fr
  have hS5 : (w3.setCells (w.heap.size + 1 + 1) 0 (I64 R)).rangeAt w.heap.size 0 (I64 a) ∧ (w3.setCells (w.heap.size + 1 + 1) 0 (I64 R)).rangeAt (w.heap.size + 1) 0 (I64 b) := ⟨arr_range (Arr.setCellsO (by omega) _ _ EE'.pa), arr_range (Arr.setCellsO (by omega) _ _ EE'.pb)⟩
  have hth : w3.there (w.heap.size + 1 + 1) 0 (I64 R).toArray.size := by have := arr_there EE'.pr; simpa [hRl] using this
  have hir : (Tryd.prog.info? 82).map (·.size) = some (I64 R).toArray.size := by simpa [hRl] using infoE
  refine wpAnyH_ready (rs := [5]) (by kernel_rfl) (by simp) (AllReadyH.cons (o := { dst := none, op := .store 82 (.tmp 4) (.tmp 9), type := 0, pos := "l04_field.go:108", after := #[{ on := 4, ground := .data }, { on := 4, ground := .chain }, { on := 0, ground := .phase }, { on := 1, ground := .phase }, { on := 2, ground := .phase }, { on := 3, ground := .phase }, { on := 4, ground := .phase }], guard := none }) rfl (fun K hK => ?_) AllReadyH.nil)
  rw [if_pos (by rfl)]
  refine wp_store_mid _ _ _ rfl _ _ (I64 R).toArray rfl rfl hth hir (all_oneCell_toArray hone) ?_
  simp only [Act.put]
  refine hK.out _ _ hS5 (fun hHeld => ?_)
  clear hK K
  refine wpAnyH_done (by kernel_rfl) ?_ _
  go_wp2
  exact bodyPost_ret (results_cell_row rfl _ _ (w.heap.size + 1 + 1) 82 (I64 R).toArray (0, 0) _ rfl hA5 Tryd.underlying82 rfl (by simpa [hRl] using infoE)) rfl ⟨rfl, hB5⟩
end Go.Proofs.YtoblilngppjmhaaDoor

/-
  What is proved here: what both sides' KeyFor answer: of keys that may be, the public half of the first one that has the number, is for bundles and not revoked.
-/
import Derived.Test.YtofflhhlacdgfaaDoorK1
import Derived.Test.YtofflhhlacdgfaaDoorJP6
import Derived.Test.YtofflhhlacdgfaaDoorS0
import Derived.Laws.OwnMore
import Derived.Deep.CutRange
namespace Go.Proofs.YtofflhhlacdgfaaDoor
open Go.RowKit
set_option maxRecDepth 100000
set_option maxHeartbeats 4000000
set_option linter.unusedVariables false

def kMay (id : Int) (x : KeyM) : Bool := x.i == id && (x.r == 2 && !x.v)
def kf (ks : List KeyM) (id : Int) : Option KeyM := ks.find? (kMay id)
theorem kf_at : ∀ (ks : List KeyM) (id : Int) (i : Nat), i < ks.length → kMay id (ks.getD i kz) = true → (∀ j, j < i → kMay id (ks.getD j kz) = false) → kf ks id = some (ks.getD i kz)
  | [], _, i, h, _, _ => by simp at h
  | x :: t, id, 0, _, h, _ => by
    have : kMay id x = true := h
    simp [kf, List.find?, this]
  | x :: t, id, i + 1, h, hx, hj => by
    have h0 : kMay id x = false := hj 0 (by omega)
    have := kf_at t id i (by simpa using h) (by simpa using hx) (fun j h => by simpa using hj (j + 1) (by omega))
    simpa [kf, List.find?, h0] using this
theorem kf_no (ks : List KeyM) (id : Int) (h : ∀ j, j < ks.length → kMay id (ks.getD j kz) = false) : kf ks id = none := by
  unfold kf
  rw [List.find?_eq_none]
  intro x hx
  obtain ⟨i, hi, rfl⟩ := List.getElem_of_mem hx
  have := h i hi
  simp [hi] at this
  simp [this]
def kfK (ks : List KeyM) (id : Int) : Option KeyM := if kOk ks then kf ks id else none
def pubO : Option KeyM → List Int
  | some x => x.p
  | none => []
def kfL (ks : List KeyM) (id : Int) : List Int := pubO (kfK ks id)
def kfB (ks : List KeyM) (id : Int) : Bool := (kfK ks id).isSome
theorem kfL_len (ks : List KeyM) (id : Int) : (kfL ks id).length ≤ 32 := by
  unfold kfL kfK
  cases h : kOk ks with
  | false => simp [pubO]
  | true =>
    simp only [if_true]
    cases e : kf ks id with
    | none => simp [pubO]
    | some x =>
      show x.p.length ≤ 32
      have hx := List.mem_of_find?_eq_some e
      obtain ⟨i, hi, rfl⟩ := List.getElem_of_mem hx
      have := (((kOk_iff ks).1 h).2 i hi).1.2.2
      simp [hi] at this
      omega
theorem kfL_byte {ks : List KeyM} (hy : KqBy ks) (id : Int) : ∀ x ∈ kfL ks id, 0 ≤ x ∧ x < 256 := by
  unfold kfL kfK
  cases h : kOk ks with
  | false => simp [pubO]
  | true =>
    simp only [if_true]
    cases e : kf ks id with
    | none => simp [pubO]
    | some x =>
      have hx := List.mem_of_find?_eq_some e
      obtain ⟨i, hi, rfl⟩ := List.getElem_of_mem hx
      have := hy i hi
      simpa [hi, pubO] using this

theorem implKeyFor (a : Option Addr) (n c : Nat) (ks : List KeyM) (id : Int) (w : World) (h : Ks w a n c ks) :
    Calls Tryd.prog 29 #[.slice a n c, .int .i64 id] w fun e w' => ∃ v, e = .returned (.tuple #[v, .bool (kfB ks id)]) ∧ w'.ownsRow w.heap.size 5 1 v (kfL ks id).length (U8 (kfL ks id)) ∧ Below w.heap.size w w' := by
  have HH : Hid (Ks w a n c ks) := h
  have HLn : Hid (ks.length = n) := h.2.1
  clear h
  cases hk : kOk ks with
  | false =>
    have e1 : kfL ks id = [] := by unfold kfL kfK; rw [hk]; rfl
    have e2 : kfB ks id = false := by unfold kfB kfK; rw [hk]; rfl
    rw [e1, e2]
    have HK : Hid _ := hk
    clear hk e1 e2
    go_enter Tryd.func29, Tryd.ntmps29
    go_wp2_with fail
    refine (implKeysOk a n c ks _ HH.out).mono ?_
    rintro e w1 ⟨rfl, hb⟩
    rw [HK.out]
    go_wp2
    go_ret2
    exact ⟨_, rfl, World.ownsRow_nil _ _ _ _, hb⟩
  | true =>
    have hn8 : n ≤ 8 := by have := ((kOk_iff ks).1 hk).1; have := HLn.out; omega
    have e1 : kfL ks id = (pubO (kf ks id)) := by unfold kfL kfK; rw [hk]; rfl
    have e2 : kfB ks id = (kf ks id).isSome := by unfold kfB kfK; rw [hk]; rfl
    have hsm : ∀ j, j < n → (ks.getD j kz).p.length = 32 := fun j hj => (((kOk_iff ks).1 hk).2 j (by rw [HLn.out]; exact hj)).1.2.2
    rw [e1, e2]
    have HK : Hid _ := hk
    have HS : Hid _ := hsm
    clear hk e1 e2 hsm
    obtain ⟨L, hL⟩ : ∃ L, L = pubO (kf ks id) := ⟨_, rfl⟩
    obtain ⟨Bo, hBo⟩ : ∃ Bo, Bo = (kf ks id).isSome := ⟨_, rfl⟩
    rw [← hL, ← hBo]
    have HL : Hid _ := hL
    have HBo : Hid _ := hBo
    clear hL hBo
    go_enter Tryd.func29, Tryd.ntmps29
    go_wp2_with fail
    refine (implKeysOk a n c ks _ HH.out).mono ?_
    rintro e w1 ⟨rfl, hb⟩
    rw [HK.out]
    go_wp2
    go_loopw [13] (fun i wr => ∃ k : Nat, k ≤ n ∧ i = .int .i64 k ∧ Hid (∀ j, j < k → kMay id (ks.getD j kz) = false) ∧ Below w.heap.size w wr) (fun i _ => n - (intOf i).toNat)
    case atStart => exact ⟨0, by omega, rfl, fun j hj => by omega, hb⟩
    case round =>
      clear hb
      obtain ⟨k, hk, rfl, HN, B⟩ := hrel
      by_cases hlt : k < n
      · obtain ⟨b, o, rfl, hbs, hcell⟩ := Ks.opened HH.out (by omega)
        obtain ⟨x, hx⟩ : ∃ x, x = ks.getD k kz := ⟨_, rfl⟩
        obtain ⟨ha, hc, hr⟩ := hcell k hlt
        have h32 := HS.out k hlt
        rw [← hx] at hr h32
        replace hr := hr.below hbs (B.mono (Nat.le_refl _))
        have HX : Hid _ := hx
        clear hx hcell
        have HR := hr.by_
        obtain ⟨x0, x1, x2, p⟩ := x
        obtain ⟨c0, c1, c2, c3, _⟩ := hr
        dsimp only at c0 c1 c2 c3 HR h32
        rw [h32] at c3 HR
        have H32 : Hid _ := h32
        clear h32
        obtain ⟨V, hV⟩ : ∃ V, V = wr.alloc (.cells #[.int .i64 x0, .int .i64 x1, .bool x2, .slice ha 32 hc] 57) := ⟨_, rfl⟩
        have b3 : Below wr.heap.size wr V := by rw [hV]; exact (Below.refl _ _).alloc (Nat.le_refl _) _
        have A : Arr V wr.heap.size 57 [.int .i64 x0, .int .i64 x1, .bool x2, .slice ha 32 hc] := by rw [hV]; exact Arr.new _ _ _
        have HB : Hid (Bs V ha 32 hc p) := HR.below b3
        replace B := B.trans (b3.mono B.size)
        go_upto_region 6 with fail
        rw [← hV]
        clear hV b3 c0 c1 c2 c3 HR
        have c0 := A.cell 0
        have c1 := A.cell 1
        have c2 := A.cell 2
        have c3 := A.cell 3
        simp at c0 c1 c2 c3
        obtain ⟨t0, ht0, h0⟩ : ∃ t, (x0 == id) = t ∧ Hid ((x0 == id) = t) := ⟨_, rfl, rfl⟩
        obtain ⟨t1, ht1, h1⟩ : ∃ t, (x1 == 2) = t ∧ Hid ((x1 == 2) = t) := ⟨_, rfl, rfl⟩
        have HK2 : Hid (kMay id (ks.getD k kz) = (t0 && (t1 && !x2))) := by
          unfold Hid; rw [← HX.out]; unfold kMay; dsimp only; rw [h0.out, h1.out]
        have HNo : Hid ((t0 && (t1 && !x2)) = false → ∀ j, j < k + 1 → kMay id (ks.getD j kz) = false) := fun h j hj => by
          by_cases e : j = k
          · subst e; rw [HK2.out]; exact h
          · exact HN.out j (by omega)
        cases t0 with
        | false =>
          go_wp2
          go_roundw
          case rel => exact ⟨k + 1, by omega, by go_num, HNo.out rfl, B⟩
          case measure => simp [intOf]; omega
        | true =>
          cases t1 with
          | false =>
            go_wp2
            go_roundw
            case rel => exact ⟨k + 1, by omega, by go_num, HNo.out rfl, B⟩
            case measure => simp [intOf]; omega
          | true =>
            cases x2 with
            | true =>
              go_wp2
              go_roundw
              case rel => exact ⟨k + 1, by omega, by go_num, HNo.out rfl, B⟩
              case measure => simp [intOf]; omega
            | false =>
              have HF : Hid (kf ks id = some ⟨x0, x1, false, p⟩) := by
                unfold Hid; rw [HX.out]
                exact kf_at ks id k (by rw [HLn.out]; exact hlt) (by rw [HK2.out]; rfl) HN.out
              clear HNo HK2
              go_wp2_with fail
              refine (cloneB ha 32 hc p _ HB.out (by omega)).mono ?_
              rintro e w5 ⟨v5, rfl, o5, hb5⟩
              have B5 := B.trans (hb5.mono B.size)
              have o6 := own_base o5 B.size
              have HO : Hid _ := o6
              clear o5 o6 hb5 c0 c1 c2 c3
              go_wp2
              go_ret2
              have e1 : L = p := by rw [HL.out, HF.out]; rfl
              have e2 : Bo = true := by rw [HBo.out, HF.out]; rfl
              subst e1
              subst e2
              rw [H32.out]
              exact ⟨_, rfl, HO.out, B5⟩
      · have hkn : k = n := by omega
        subst hkn
        have HF : Hid (kf ks id = none) := kf_no ks id (fun j hj => HN.out j (by rw [← HLn.out]; exact hj))
        go_wp2
        go_ret2
        have e1 : L = [] := by rw [HL.out, HF.out]; rfl
        have e2 : Bo = false := by rw [HBo.out, HF.out]; rfl
        subst e1
        subst e2
        exact ⟨_, rfl, World.ownsRow_nil _ _ _ _, B⟩
end Go.Proofs.YtofflhhlacdgfaaDoor

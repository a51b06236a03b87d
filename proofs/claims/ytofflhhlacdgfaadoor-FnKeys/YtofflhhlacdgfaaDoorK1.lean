/-
  What is proved here: the contract of the program's KeysOk.
-/
import Derived.Test.YtofflhhlacdgfaaDoorClK
import Derived.Test.YtofflhhlacdgfaaDoorJP18
import Derived.Test.YtofflhhlacdgfaaDoorK0s
import Derived.Deep.Slices
namespace Go.Proofs.YtofflhhlacdgfaaDoor
open Go.RowKit
set_option maxRecDepth 100000
set_option maxHeartbeats 4000000

theorem Ks.row {w : World} {a : Option Addr} {n c : Nat} {ks : List KeyM} (h : Ks w a n c ks) : ∃ f : Nat → Option Addr × Nat, Rw4 w a n (fun i => key4 (ks.getD i kz) (f i).1 (f i).2) := by
  obtain ⟨h0, h1, h2, h3⟩ := h
  rcases h3 with h3 | ⟨b, o, rfl, hb, hc⟩
  · exact ⟨fun _ => (none, 0), .inl h3⟩
  · have hE : ∀ i, i < n → ∃ q : Option Addr × Nat, KeyAt w b (o + i * 4) (ks.getD i kz) q.1 q.2 := fun i hi => by
      obtain ⟨ha, hc, h⟩ := hc i hi
      exact ⟨(ha, hc), h⟩
    haveI : Inhabited (Option Addr × Nat) := ⟨(none, 0)⟩
    obtain ⟨f, hF⟩ := Go.Deep.choose_lt (α := Option Addr × Nat) hE
    exact ⟨f, .inr ⟨b, o, rfl, hb, fun i hi => ⟨(hF i hi).i, (hF i hi).r, (hF i hi).v, (hF i hi).p⟩⟩⟩
abbrev kP (ks : List KeyM) (i : Nat) : Bool := decide (keyOk1 (ks.getD i kz).i (ks.getD i kz).r (ks.getD i kz).p.length)
abbrev kC (ks : List KeyM) (i : Nat) : Int := cmpI (ks.getD i kz).i (ks.getD (i + 1) kz).i
theorem kOk_lst {n : Nat} {ks : List KeyM} (h : ks.length = n) : lstOk n 8 (kP ks) (kC ks) = kOk ks := by
  subst h
  have e : lstOkP ks.length 8 (kP ks) (kC ks) ↔ ksOk ks := by
    constructor
    · rintro ⟨h1, h2⟩
      refine ⟨by omega, fun j hj => ?_⟩
      obtain ⟨a, b⟩ := h2 j hj
      refine ⟨of_decide_eq_true a, fun hp => ?_⟩
      have := b hp
      rw [cmpI_neg, show j - 1 + 1 = j by omega] at this
      exact this
    · rintro ⟨h1, h2⟩
      refine ⟨by omega, fun j hj => ?_⟩
      obtain ⟨a, b⟩ := h2 j hj
      refine ⟨decide_eq_true a, fun hp => ?_⟩
      rw [cmpI_neg, show j - 1 + 1 = j by omega]
      exact b hp
  cases h : kOk ks with
  | true => exact decide_eq_true (e.2 ((kOk_iff ks).1 h))
  | false => exact decide_eq_false (fun q => by rw [(kOk_iff ks).2 (e.1 q)] at h; cases h)
theorem implKeysOk (a : Option Addr) (n c : Nat) (ks : List KeyM) (w : World) (hp : Ks w a n c ks) :
    Calls Tryd.prog 31 #[.slice a n c] w fun e w' => e = .returned (.bool (kOk ks)) ∧ Below w.heap.size w w' := by
  obtain ⟨f, hr⟩ := hp.row
  have HC : Hid _ := implListOkKey a n c 8 (by omega) _ (kP ks) (kC ks) w hr (fun i hi => ⟨_, _, _, _, _, _, rfl⟩) (fun i hi W hW => implKeyOk _ _ _ _ _ _ W) (fun i hi W hW => implCompareKey _ _ _ _ _ _ _ _ _ _ _ _ W)
  rw [kOk_lst hp.2.1] at HC
  obtain ⟨R, hR⟩ : ∃ R, R = kOk ks := ⟨_, rfl⟩
  rw [← hR] at HC ⊢
  clear hR hr hp
  go_enter Tryd.func31, Tryd.ntmps31
  go_wp2_with fail
  refine Calls.mono HC.out ?_
  rintro e w1 ⟨rfl, hb⟩
  clear HC
  go_wp2
  go_ret
  exact ⟨rfl, hb⟩
end Go.Proofs.YtofflhhlacdgfaaDoor

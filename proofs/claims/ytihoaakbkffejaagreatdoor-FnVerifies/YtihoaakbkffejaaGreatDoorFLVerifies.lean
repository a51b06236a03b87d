/-
  What is proved: the given statement that whatever the code: whoever is found to have signed: the key and the first half are points, the last half is a multiplier, and the points say so; the tables that it reads are tied to the program's text by the given tie; no condition beside the statement's own.
-/
import Derived.Test.YtihoaakbkffejaaGreatDoorRows
import Derived.Test.YtihoaakbkffejaaGreatDoorCards
import Derived.Test.YtihoaakbkffejaaGreatDoorTie
import Derived.Test.YtihoaakbkffejaaGreatDoorFLVerifiesW
import Derived.Test.YtihoaakbkffejaaGreatDoorFLqv
import Derived.WalkKit
import Derived.ProofKit
import Derived.OpenShut
import Derived.ChangeOld
import Derived.Below
import Derived.SevenTiedAt
namespace Go.Proofs.YtihoaakbkffejaaGreatDoor.fnVerifies
open Go.ChangeShapes Go.WideShapes Go.ChangeAt Go.RowKit
set_option linter.unusedVariables false

theorem door_met (os : Os) (args : Array Value) : laidMetH Tryz.prog Rows.fnVerifiesRow.laid ((World.doorLaid Tryz.prog 77 os).forCall (fun _ _ => 0) ⟨#[], args, []⟩).memory :=
 laidMetH_of_parts3 (fuel := 8) (laidMet_of_run' 8 (by kernel_rfl) (by kernel_rfl)) (by kernel_rfl) (by kernel_rfl)

theorem reads : ∀ n ∈ Rows.fnVerifiesSpec.vars, ∀ g t, Tryz.prog.globalNamed n = some g → (Tryz.prog.globals[g]?).map (·.type) = some t → Tryz.prog.readableRec t = true ∧ t < Tryz.prog.types.size := by
 intro n hn g t h1 h2
 simp only [Rows.fnVerifiesSpec, List.mem_cons, List.not_mem_nil, or_false] at hn
 rcases hn with rfl | rfl | rfl | rfl | rfl | rfl | rfl | rfl | rfl | rfl
 ·obtain rfl := Option.some.inj (gErr.symm.trans h1)
  obtain rfl := Option.some.inj (tErr.symm.trans h2)
  exact ⟨by kernel_rfl, of_decide_eq_true (by kernel_rfl)⟩
 ·obtain rfl := Option.some.inj (gPrime.symm.trans h1)
  obtain rfl := Option.some.inj (tPrime.symm.trans h2)
  exact ⟨by kernel_rfl, of_decide_eq_true (by kernel_rfl)⟩
 ·obtain rfl := Option.some.inj (gD.symm.trans h1)
  obtain rfl := Option.some.inj (tD.symm.trans h2)
  exact ⟨by kernel_rfl, of_decide_eq_true (by kernel_rfl)⟩
 ·obtain rfl := Option.some.inj (gMinus.symm.trans h1)
  obtain rfl := Option.some.inj (tMinus.symm.trans h2)
  exact ⟨by kernel_rfl, of_decide_eq_true (by kernel_rfl)⟩
 ·obtain rfl := Option.some.inj (gOrder.symm.trans h1)
  obtain rfl := Option.some.inj (tOrder.symm.trans h2)
  exact ⟨by kernel_rfl, of_decide_eq_true (by kernel_rfl)⟩
 ·obtain rfl := Option.some.inj (gWFirst.symm.trans h1)
  obtain rfl := Option.some.inj (tWFirst.symm.trans h2)
  exact ⟨by kernel_rfl, of_decide_eq_true (by kernel_rfl)⟩
 ·obtain rfl := Option.some.inj (gWRounds.symm.trans h1)
  obtain rfl := Option.some.inj (tWRounds.symm.trans h2)
  exact ⟨by kernel_rfl, of_decide_eq_true (by kernel_rfl)⟩
 ·obtain rfl := Option.some.inj (gWTurns.symm.trans h1)
  obtain rfl := Option.some.inj (tWTurns.symm.trans h2)
  exact ⟨by kernel_rfl, of_decide_eq_true (by kernel_rfl)⟩
 ·obtain rfl := Option.some.inj (gBX.symm.trans h1)
  obtain rfl := Option.some.inj (tBX.symm.trans h2)
  exact ⟨by kernel_rfl, of_decide_eq_true (by kernel_rfl)⟩
 ·obtain rfl := Option.some.inj (gBY.symm.trans h1)
  obtain rfl := Option.some.inj (tBY.symm.trans h2)
  exact ⟨by kernel_rfl, of_decide_eq_true (by kernel_rfl)⟩

set_option maxRecDepth 100000 in
theorem lifted (os : Os) (started : os.Started) (H : Type) (enc : TypeId × Value → H) :
  ReturnsInHanded {} Tryz.checked os 4 .any (fun w args => (Rows.fnVerifiesSpec.pre enc Tryz.prog Tryz.f4 [] false w args ∧ laidMetH Tryz.prog Rows.fnVerifiesRow.laid w) ∧ sizedMet enc Tryz.prog Tryz.f4 (OpenSpec.ofChange Rows.fnVerifiesSpec) false w args)
   (Rows.fnVerifiesSpec.post enc Tryz.prog Tryz.f4 false true false false) := by
 refine returnsInHanded_of_change_and (C := Tryz.checked) (X := fun w _ => laidMetH Tryz.prog Rows.fnVerifiesRow.laid w) (fun _ _ _ hh h => h.of_heap hh) own started (by kernel_rfl) Tryz.func4
  (ChangeSpec.witness_shaped (enc := enc) (C := Tryz.checked) (os := os) (X := fun w _ => laidMetH Tryz.prog Rows.fnVerifiesRow.laid w) false (World.doorLaid Tryz.prog 77 os) #[.slice none 0 0] 8 rfl (World.shaped_of_RefB (by kernel_rfl) (by kernel_rfl)) (by kernel_rfl) (by kernel_rfl) (by kernel_rfl) (door_met os _)) ?_
 intro W base args ds gs before hval0 hW _ hsz0 hL _
 have hval : ∀ (j : Nat) t v, Tryz.f4.params[j]? = some t → args[j]? = some v → Value.okWide Tryz.prog W .any base t v := hval0
 have hW' := hW
 obtain ⟨p, q, hA0, hV, rfl, hfz, hnd⟩ := hW
 have hA : DataW.TrodAll enc Tryz.prog W 0 (fun _ => true) true Tryz.f4.params.toList args.toList ds p := hA0
 rw [Tryz.params4] at hA hval
 obtain ⟨v0, vs0, d0, ds0, p0, q0, hargs, rfl, rfl, h0, r0⟩ := trodAll_cons hA
 obtain ⟨rfl, rfl, rfl⟩ := trodAll_nil r0
 obtain rfl : args = #[v0] := by cases args; simp_all
 have k0 := h0
 have lt0 : ∀ x ∈ p0, x.block < W.heap.size := by obtain ⟨m, hm⟩ := k0; exact DataW.trod_lt m _ _ _ hm
 obtain ⟨a0, len0, cap0, rfl⟩ := okWide_slice Tryz.underlying22 (hval 0 22 v0 rfl rfl)
 obtain ⟨z0, w0, hlm0⟩ : ∃ zs, Bs W a0 len0 cap0 zs ∧ len0 ≤ 9223372036854775807 := by
  obtain ⟨fuel, hf⟩ := h0
  rcases open_ints Tryz.underlying22 Tryz.underlying5 (by kernel_rfl) hf with ⟨hcs, _⟩ | ⟨x, l, c, zs, hcs, _, hl, hm, hz, _, hcell, hwz⟩
  ·simp [Value.cells] at hcs
   obtain ⟨rfl, rfl, rfl⟩ := hcs
   exact ⟨[], ⟨fun _ => rfl, rfl, Nat.le_refl _, by simp, .inl rfl⟩, by omega⟩
  ·simp [Value.cells] at hcs
   obtain ⟨rfl, rfl, rfl⟩ := hcs
   exact ⟨zs.take len0, bs_of_arg hl (by simpa using hz) hcell hwz, by unfold maxLen at hm; omega⟩
 have hre0 : len0 ≤ 140737488351232 := by
  rw [Tryz.params4] at hsz0
  have e := Joins.sliceLen_Trod Tryz.underlying22 k0
  have r := reach_of hsz0
  omega
 clear hA0 hval0
 obtain ⟨be, hT⟩ := laid_varsV hL
 obtain ⟨g0, g1, g2, g3, g4, g5, g6, g7, g8, g9, rfl⟩ : ∃ g0 g1 g2 g3 g4 g5 g6 g7 g8 g9, gs = [g0, g1, g2, g3, g4, g5, g6, g7, g8, g9] := by
  match gs, hV with
  | [g0, g1, g2, g3, g4, g5, g6, g7, g8, g9], _ => exact ⟨g0, g1, g2, g3, g4, g5, g6, g7, g8, g9, rfl⟩
 refine (walk_fnVerifies W a0 len0 cap0 z0 w0 hre0 be hT).mono fun e W' ⟨he, bel⟩ => ?_
 subst he
 exact ⟨_, rfl, _, _, _, [], _, _, hW', trodAll_mk1 (shut_bool Tryz.underlying4 _), (trodAll_cons_mk (Below.trod laidOut (by kernel_rfl) (of_decide_eq_true (by kernel_rfl)) k0 bel lt0) trodAll_mk0), vars_carry bel reads hV, bel.frame _, fun h => by cases h⟩

theorem over : Rows.fnVerifiesRow.holds Tryz.pinned (OpenSpec.ofChange Rows.fnVerifiesSpec) :=
 OpenClaim.holds_of_wide 4 Tryz.f4 rfl rfl rfl rfl rfl rfl rfl ⟨rfl, rfl, rfl, rfl, rfl⟩ rfl rfl rfl rfl rfl (by kernel_rfl) Tryz.func4 (by kernel_rfl)
  (of_decide_eq_true (by kernel_rfl)) (by unfold Func.isWrapper; first | (rw [if_pos (by decide +kernel)]; kernel_rfl) | (rw [if_neg (by decide +kernel)]; exact ⟨rfl, rfl⟩))
  (fun os started H enc _ => lifted os started H enc)

end Go.Proofs.YtihoaakbkffejaaGreatDoor.fnVerifies
namespace Go.Proofs.YtihoaakbkffejaaGreatDoor

/-- The given statement. -/
theorem fnVerifies_proved : Rows.FnVerifiesCardSaid :=
 Claim7.holds_tied_plain_at .later [] [.data, .data, .data, .wider, .data, .data, .wider, .data, .data, .sentinel] true Rows.fnVerifiesCard.stood.harness true
  fnVerifies.over (fun _ h => by cases h) (by kernel_rfl) (fun _ h => by cases h) fnVerifies_row_tie rfl ⟨rfl, rfl⟩ (by kernel_rfl) rfl
  (fun f fn hf hfn => by
   obtain rfl : f = 4 := Option.some.inj ((show Tryz.prog.funcNamed "loop.example/g00412/laws.FnVerifies" = some 4 by kernel_rfl).symm.trans hf) |>.symm
   obtain rfl : fn = Tryz.f4 := (Option.some.inj (Tryz.func4.symm.trans hfn)).symm
   exact ⟨by kernel_rfl, fun j t ht => by
    rw [Tryz.params4] at ht
    rcases j with _ | j
    ·obtain rfl : 22 = t := by simpa using ht
     exact (show Tryz.prog.wantsStandIn 22 = false by kernel_rfl)
    ·simp at ht⟩)
  (by kernel_rfl)
#print axioms fnVerifies_proved
end Go.Proofs.YtihoaakbkffejaaGreatDoor

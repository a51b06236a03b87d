/-
  What is proved here: what the specification's l8data answers at any kind and version; append of one part onto a row of parts; the sums of a row of parts, rows apart.
-/
import Derived.Test.YtofflhhlacdgfaaDoorJM7
import Derived.Test.YtofflhhlacdgfaaDoorJM17
import Derived.Test.YtofflhhlacdgfaaDoorJM2
namespace Go.Proofs.YtofflhhlacdgfaaDoor
open Go.RowKit
set_option maxRecDepth 100000
set_option maxHeartbeats 4000000
set_option linter.unusedVariables false

theorem specL8dataG (k v n : Int) (w : World) (hk : 0 ≤ k ∧ k ≤ 10) (hv : 0 ≤ v ∧ v ≤ 10) (hn : n ≤ 200) :
    Calls Tryd.prog 78 #[.int .i64 k, .int .i64 v, .int .i64 n] w fun e w' => ∃ (u : Value) (ys : List Int), e = .returned u ∧ w'.ownsRow w.heap.size 5 1 u ys.length (U8 ys) ∧ bytesF ys ∧ ys.length = n.toNat ∧ Below w.heap.size w w' := by
  have hw5 : IntKind.i64.wrap (k * 31) = k * 31 := wr64 (by omega) (by omega)
  have hw6 : IntKind.i64.wrap (v * 7) = v * 7 := wr64 (by omega) (by omega)
  obtain ⟨z, hz⟩ : ∃ z, z = k * 31 + v * 7 := ⟨_, rfl⟩
  have hz1 : 0 ≤ z ∧ z ≤ 400 := by omega
  have hw7 : IntKind.i64.wrap (k * 31 + v * 7) = z := (wr64 (by omega) (by omega)).trans hz.symm
  clear hz
  go_enter Tryd.func78, Tryd.ntmps78
  go_wp2
  go_loopw [7, 8] (fun u i wr => ∃ (j : Nat) (ys : List Int), j ≤ n.toNat ∧ i = .int .i64 j ∧ ys.length = j ∧ Hid (wr.ownsRow w.heap.size 5 1 u j (U8 ys)) ∧ Hid (bytesF ys) ∧ Below w.heap.size w wr) (fun _ i _ => n.toNat - (intOf i).toNat)
  case atStart => exact ⟨0, [], by omega, rfl, rfl, World.ownsRow_nil _ _ _ _, (fun x hx => by cases hx), Below.refl _ _⟩
  case round =>
    obtain ⟨j, ys, hj, rfl, hl, HO, HY, B⟩ := hrel
    by_cases hlt : (j : Int) < n
    · have hj2 : j ≤ 200 := by omega
      have hjj : (j : Int) * (j : Int) ≤ 40000 := by
        have h1 : j * j ≤ 40000 := Nat.mul_le_mul hj2 hj2
        rw [← Int.natCast_mul]
        exact Int.ofNat_le.2 h1
      have hj0 : 0 ≤ (j : Int) * (j : Int) := by rw [← Int.natCast_mul]; exact Int.natCast_nonneg _
      have hw : IntKind.i64.wrap ((j : Int) + 1) = (j : Int) + 1 := wr64 (by omega) (by omega)
      have hw2 : IntKind.i64.wrap ((j : Int) * (j : Int)) = (j : Int) * (j : Int) := wr64 (by omega) (by omega)
      have hw3 : IntKind.i64.wrap (z + (j : Int) * (j : Int)) = z + (j : Int) * (j : Int) := wr64 (by omega) (by omega)
      have hy2 := u8_rangeF (z + (j : Int) * (j : Int))
      obtain ⟨y, hy⟩ : ∃ y, IntKind.u8.wrap (z + (j : Int) * (j : Int)) = y := ⟨_, rfl⟩
      rw [hy] at hy2
      have HN : Hid (j + 1 ≤ n.toNat) := by unfold Hid; omega
      have HY3 : Hid (bytesF (ys ++ [y])) := fun x hx => by
        rw [List.mem_append] at hx
        rcases hx with h | h
        · exact HY.out x h
        · simp at h; rw [h]; exact hy2
      clear hjj hj0 hj hj2 HY
      go_wp2_with (at_builtin; refine wpl_append_bs rfl _ _ rfl w.heap.size u7 j ys rfl (some ⟨wr.heap.size, 0, none⟩) 1 1 [y] rfl (World.ownsRow.alloc HO.out _) (Bs.one wr y hy2.1 hy2.2) (by have := HN.out; omega) (Nat.le_trans B.size (by simp)) ?_)
      intro v3 w3 O3 g3 _
      have HO3 : Hid (w3.ownsRow w.heap.size 5 1 v3 (j + 1) (U8 (ys ++ [y]))) := by unfold Hid; rw [u8_appF]; exact O3
      have B3 : Below w.heap.size w w3 := (B.alloc B.size _).grown g3 (Nat.le_trans B.size (by simp)) (fun k hk => (World.ownsRow.lt HO.out k hk).1)
      clear O3 g3 HO B hw2 hw3 hy
      go_wp2
      go_roundw
      case rel => exact ⟨j + 1, _, HN.out, by go_num, by rw [List.length_append, hl]; rfl, HO3, HY3, B3⟩
      case measure => have := HN.out; simp [intOf]; omega
    · have hjn : j = n.toNat := by omega
      have HL : Hid (ys.length = n.toNat) := by unfold Hid; omega
      clear hjn hj
      go_wp2
      go_ret
      exact ⟨_, rfl, ys, by rw [hl]; exact HO.out, HY.out, HL.out, B⟩
theorem wpl_app_p4 {w : World} {ops : Array Oper} {rest : List Oper} {o : Oper} {a : Act} {Q : Exit → Act → World → Prop} (hgd : o.guard = none) (s x : Operand)
    (ho : o.op = .call { callee := .builtin .append, args := #[s, x], argTypes := #[23, 23] })
    (base : Nat) (v : Value) (n : Nat) (xs : List L4) (hs : a.eval s = v) (g c : Nat) (i r b : Int) (pa : Option Addr) (pn pc : Nat) (hx : a.eval x = .slice (some ⟨g, 0, none⟩) 1 c)
    (hown : w.ownsRow base 45 4 v n (QL xs)) (A : Arr w g 45 [.int .i64 i, .int .i64 r, .int .i64 b, .slice pa pn pc]) (hn : n ≤ 1048576) (hbase : base ≤ w.heap.size)
    (h : ∀ v' w', w'.ownsRow base 45 4 v' (n + 1) (QL (xs ++ [⟨.int .i64 i, .int .i64 r, .int .i64 b, .slice pa pn pc⟩])) → w.grownBy w' v.ownBlock → wpList Tryd.prog ops Q rest (a.put o.dst v') w') :
    wpList Tryd.prog ops Q (o :: rest) a w := by
  obtain ⟨i0, hi, hz0, hz1, hz2⟩ := info_parts (show (Tryd.prog.info? 45).map (fun i => (i.zero, i.size, i.bytes)) = some (some (.agg #[.int .i64 0, .int .i64 0, .int .i64 0, .slice none 0 0]), 4, 48) by kernel_rfl)
  refine wpList_append_own_at w hgd s x 23 ho base 45 i0 (.agg #[.int .i64 0, .int .i64 0, .int .i64 0, .slice none 0 0]) 4 48 Tryd.underlying23 hi hz0 hz1 hz2 rfl (by decide) v n (QL xs) hs hown ⟨g, 0, none⟩ 1 c (QL [⟨.int .i64 i, .int .i64 r, .int .i64 b, .slice pa pn pc⟩]) hx rfl (fun j u hj => ?_) (QL_one _ (fun x hx => by simp at hx; subst hx; exact ⟨rfl, rfl, rfl, rfl⟩)) (by unfold maxLen; omega) (by omega) hbase ?_
  · have hj4 : j < 4 := by
      have := (List.getElem?_eq_some_iff.1 hj).1
      simpa [QL] using this
    rw [Addr.add_lit, show (0 : Nat) + j = j by omega, A.cell j]
    exact hj
  · intro v' w' h1 h2 _ _
    exact h v' w' (by rw [QL_app]; exact h1) h2
/-- The sums of the first parts, rows of their own. -/
def Sums (lo : Nat) (W : World) (l : List L4) (k : Nat) : Prop := ∀ q, q < k → ∃ (i r b : Int) (a : Option Addr) (c : Nat) (xs : List Int), lg l q = ⟨.int .i64 i, .int .i64 r, .int .i64 b, .slice a xs.length c⟩ ∧ W.ownsRow lo 5 1 (.slice a xs.length c) xs.length (U8 xs) ∧ (∀ x ∈ xs, 0 ≤ x ∧ x < 256) ∧ xs.length = 32
theorem Sums.below {lo k : Nat} {W W' : World} {l : List L4} (h : Sums lo W l k) (hb : Below W.heap.size W W') : Sums lo W' l k := fun q hq => by
  obtain ⟨i, r, b, a, c, xs, e, o, hx⟩ := h q hq
  exact ⟨i, r, b, a, c, xs, e, own_below o hb, hx⟩
theorem Sums.p {lo p k : Nat} {W W' : World} {l : List L4} (h : Sums lo W l k) (hp : p < lo) (hg : W.grownBy W' (some p)) : Sums lo W' l k := fun q hq => by
  obtain ⟨i, r, b, a, c, xs, e, o, hx⟩ := h q hq
  exact ⟨i, r, b, a, c, xs, e, own_pk o hp hg, hx⟩
theorem Sums.grown {lo lo' t n k : Nat} {W W' : World} {l : List L4} {v : Value} {ys : List Value} (h : Sums lo W l k) (o' : W.ownsRow lo' t 4 v n ys) (ht : t ≠ 5) (hg : W.grownBy W' v.ownBlock) : Sums lo W' l k := fun q hq => by
  obtain ⟨i, r, b, a, c, xs, e, o, hx⟩ := h q hq
  exact ⟨i, r, b, a, c, xs, e, o.kept hg (own_types o' o ht), hx⟩
theorem Sums.snoc {lo k : Nat} {W : World} {l : List L4} (h : Sums lo W l k) (hl : l.length = k) (i r b : Int) (a : Option Addr) (c : Nat) (xs : List Int) (o : W.ownsRow lo 5 1 (.slice a xs.length c) xs.length (U8 xs)) (hx : (∀ x ∈ xs, 0 ≤ x ∧ x < 256) ∧ xs.length = 32) : Sums lo W (l ++ [⟨.int .i64 i, .int .i64 r, .int .i64 b, .slice a xs.length c⟩]) (k + 1) := fun q hq => by
  by_cases e : q = k
  · subst e
    refine ⟨i, r, b, a, c, xs, ?_, o, hx⟩
    unfold lg
    simp [List.getD_eq_getElem?_getD, ← hl]
  · obtain ⟨i', r', b', a', c', xs', e', o', hx'⟩ := h q (by omega)
    refine ⟨i', r', b', a', c', xs', ?_, o', hx'⟩
    rw [← e']
    unfold lg
    rw [List.getD_eq_getElem?_getD, List.getD_eq_getElem?_getD, List.getElem?_append_left (by omega)]
theorem specPartMade (k v : Int) (a : Option Addr) (n c : Nat) (bs : List Int) (w : World) (hB : Bs w a n c bs) (hok : partOk k v n 32) :
    Calls Tryd.prog 39 #[.int .i64 k, .int .i64 v, .slice a n c] w fun e w' => ∃ (va : Option Addr) (vc : Nat) (hs : List Int), e = .returned (.tuple #[.agg #[.int .i64 k, .int .i64 v, .int .i64 (n : Int), .slice va 32 vc], .bool true]) ∧ w'.ownsRow w.heap.size 5 1 (.slice va 32 vc) 32 (U8 hs) ∧ (∀ x ∈ hs, 0 ≤ x ∧ x < 256) ∧ hs.length = 32 ∧ Below w.heap.size w w' := by
  have hE : pfT k v bs = (⟨k, v, (n : Int), sumOf bs⟩, true) := by
    unfold pfT
    rw [hB.2.1, if_pos hok]
  refine (specPartOf k v a n c bs w hB).mono ?_
  rintro e w1 ⟨vh, rfl, o, hb⟩
  rw [hE] at o ⊢
  dsimp only at o ⊢
  obtain ⟨va, vc, rfl, _, _⟩ := Bs.own o (sumOf_byte bs)
  have h32 := sumOf_len bs
  rw [h32] at o ⊢
  exact ⟨va, vc, sumOf bs, rfl, o, sumOf_byte bs, h32, hb⟩
end Go.Proofs.YtofflhhlacdgfaaDoor

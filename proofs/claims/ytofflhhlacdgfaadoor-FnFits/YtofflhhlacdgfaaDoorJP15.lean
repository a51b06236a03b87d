/-
  What is proved here: the contract of the program's Sha256, for every slice. Where the program's three tables hold what its text lays into them; contracts of the specification's l8version, l8part, l8need, l8ahead: what a part, a need and their order are as plain facts; how bundles lie in memory (parts and needs are rows of four cells, a part's sum a row of bytes); the contract of the specification's l8find.
-/
import Derived.Test.YtofflhhlacdgfaaDoorJP14
import Derived.Test.YtofflhhlacdgfaaDoorJP1
import Derived.Deep.CutRange
import Derived.Test.YtofflhhlacdgfaaDoorJP7
namespace Go.Proofs.YtofflhhlacdgfaaDoor
set_option maxRecDepth 100000
open Go.RowKit

theorem H0_ok : shaOk H0 0 [] = true := by
  unfold shaOk
  simp only [Bool.and_eq_true, decide_eq_true_eq]
  exact ⟨(isW_iff H0).2 ⟨H0_len, H0_words⟩, by omega, by omega, by simp⟩
theorem addOk_H0 (bs : List Int) : addOk H0 0 [] bs = decide (bs.length ≤ 20000) := by
  unfold addOk
  rw [H0_ok, Bool.true_and]
  congr 1
  simp only [eq_iff_iff]
  omega
theorem addH_ints (hs : List Int) (N : Int) (ts bs : List Int) : ∀ x ∈ addH hs N ts bs, -9223372036854775808 ≤ x ∧ x ≤ 9223372036854775807 := by
  unfold addH
  split
  · rename_i h
    unfold addOk at h
    simp only [Bool.and_eq_true] at h
    exact words_int (fld_word (shaOk_parts h.1).2.1 _ _)
  · simp
theorem addT_bytes (hs : List Int) (N : Int) {ts bs : List Int} (h1 : ∀ x ∈ ts, 0 ≤ x ∧ x < 256) (h2 : ∀ x ∈ bs, 0 ≤ x ∧ x < 256) : ∀ x ∈ addT hs N ts bs, 0 ≤ x ∧ x < 256 := by
  unfold addT
  split
  · refine drop_byte (fun x hx => ?_)
    rcases List.mem_append.1 hx with h | h
    · exact h1 x h
    · exact h2 x h
  · simp

set_option maxHeartbeats 1000000 in
theorem implSha256 (a : Option Addr) (n c : Nat) (bs : List Int) (w : World) (hB : Bs w a n c bs) (ht : Tabs w) (hf : TabF w) :
    Calls Tryd.prog 26 #[.slice a n c] w fun e w' => ∃ v, e = .returned v ∧ w'.ownsRow w.heap.size 5 1 v (s256 bs).length (U8 (s256 bs)) ∧ Below w.heap.size w w' := by
  have hbl := hB.2.1
  have HN := implShaNew
  have hbb := hB.2.2.2.1
  have hend : bs.length ≤ 20000 → endOf (addH H0 0 [] bs) (addN H0 0 [] bs) (addT H0 0 [] bs) = sumOf bs := fun h => (end_of_add h H0_ok).2.2
  have hok := addOk_H0 bs
  have hin := addH_ints H0 0 [] bs
  have hby := addT_bytes H0 0 (ts := []) (bs := bs) (by simp) hbb
  obtain ⟨H, hH⟩ : ∃ H, H = H0 := ⟨_, rfl⟩
  have hwi : ∀ x ∈ H, -9223372036854775808 ≤ x ∧ x ≤ 9223372036854775807 := by rw [hH]; exact words_int H0_words
  rw [← hH] at HN hend hok hin hby
  have HI := fun a1 c1 w h1 h2 h3 ht => implShaAdd a1 8 c1 0 none 0 0 H [] a n c bs w h1 h2 h3 ht
  generalize addH H 0 [] bs = LH at HI hend hin
  generalize addN H 0 [] bs = M at HI hend
  generalize addT H 0 [] bs = LT at HI hend hby
  rw [hok] at HI
  have HN' : Hid _ := HN
  have HI' : Hid _ := HI
  have HWI : Hid _ := hwi
  have HIN : Hid _ := hin
  have HBY : Hid _ := hby
  have HEND : Hid _ := hend
  obtain ⟨S, hS⟩ : ∃ S, S = s256 bs := ⟨_, rfl⟩
  have hS1 : bs.length ≤ 20000 → S = sumOf bs := fun h => by rw [hS]; unfold s256; rw [if_pos h]
  have hS2 : ¬ bs.length ≤ 20000 → S = [] := fun h => by rw [hS]; unfold s256; rw [if_neg h]
  rw [← hS]
  have HS1 : Hid _ := hS1
  have HS2 : Hid _ := hS2
  obtain ⟨q, hq⟩ : ∃ q : Bool, q = decide (bs.length ≤ 20000) := ⟨_, rfl⟩
  rw [← hq] at HI'
  have hq' : (q = false ∧ ¬ bs.length ≤ 20000) ∨ (q = true ∧ bs.length ≤ 20000) := by
    by_cases h : bs.length ≤ 20000
    · exact .inr ⟨by rw [hq]; simp [h], h⟩
    · exact .inl ⟨by rw [hq]; simp [h], h⟩
  clear hH hS hS1 hS2 hq HN HI hwi hin hby hend hok hbb
  go_enter Tryd.func26, Tryd.ntmps26
  go_wp2_with fail
  refine (HN'.out _ hf).mono ?_
  rintro e w1 ⟨a1, c1, rfl, o1, b1⟩
  go_wp2_with fail
  refine (HI'.out a1 c1 _ (is_of_own o1 HWI.out) (bs_none _) (hB.below b1) (ht.below b1)).mono ?_
  rintro e w2 ⟨v2, rfl, ⟨a2, c2, a3, c3, rfl, o2⟩, b2⟩
  have B2 := b1.trans (b2.mono b1.size)
  have S2 := Sh.of_own o2 M
  obtain ⟨mH, emH⟩ : ∃ m, m = LH.length := ⟨_, rfl⟩
  obtain ⟨mT, emT⟩ : ∃ m, m = LT.length := ⟨_, rfl⟩
  rw [← emH, ← emT] at S2 ⊢
  have B3 : Below w.heap.size w (w2.alloc (.cells #[.slice a2 mH c2, .int .i64 M, .slice a3 mT c3] 95)) := B2.alloc B2.size _
  have HS3 : Hid _ := S2
  have HB3 : Hid _ := B3
  clear o1 o2 b1 b2 B2 emH emT S2 B3
  rcases hq' with ⟨rfl, hl⟩ | ⟨rfl, hl⟩
  · have e1 : S = [] := HS2.out hl
    have HE1 : Hid _ := e1
    clear e1
    go_wp2
    go_ret
    refine ⟨_, rfl, ?_, HB3.out⟩
    rw [HE1.out]
    exact World.ownsRow_nil _ _ _ _
  have e1 : endOf LH M LT = S := (HEND.out hl).trans (HS1.out hl).symm
  have HE1 : Hid _ := e1
  clear e1
  obtain ⟨W3, hW3⟩ : ∃ W3, W3 = w2.alloc (.cells #[.slice a2 mH c2, .int .i64 M, .slice a3 mT c3] 95) := ⟨_, rfl⟩
  rw [← hW3] at HS3 HB3
  go_wp2_with fail
  rw [← hW3]
  refine (implShaEnd a2 mH c2 M a3 mT c3 LH LT _ (is_of_own HS3.out.oh HIN.out) (bs_of_own HS3.out.ot HBY.out) (ht.below HB3.out)).mono ?_
  rintro e w4 ⟨v4, rfl, o4, b4⟩
  rw [HE1.out] at o4
  have B4 := HB3.out.trans (b4.mono HB3.out.size)
  have o4' := own_base o4 HB3.out.size
  clear o4 b4
  go_wp2
  go_ret
  exact ⟨_, rfl, o4', B4⟩
end Go.Proofs.YtofflhhlacdgfaaDoor
namespace Go.Proofs.YtofflhhlacdgfaaDoor
open Go.RowKit
set_option maxRecDepth 100000
set_option maxHeartbeats 1000000

abbrev verOk (n : Int) : Prop := 0 ≤ n ∧ n ≤ 1000
abbrev partOk (k v s : Int) (n : Nat) : Prop := (0 ≤ k ∧ k < 4) ∧ verOk v ∧ (1 ≤ s ∧ s ≤ 192) ∧ n = 32
abbrev needOk (o f t k : Int) : Prop := (0 ≤ k ∧ k < 4) ∧ (0 ≤ o ∧ o < 4) ∧ o ≠ k ∧ verOk f ∧ verOk t ∧ f ≤ t
abbrev needLt (o f t k o' f' t' k' : Int) : Prop := o < o' ∨ o = o' ∧ (k < k' ∨ k = k' ∧ (f < f' ∨ f = f' ∧ t < t'))
/-- A Bool by what it says. -/
theorem by_dec (P : Prop) [Decidable P] : ∃ R : Bool, decide P = R ∧ Hid (P → R = true) ∧ Hid (¬ P → R = false) := ⟨_, rfl, decide_eq_true, decide_eq_false⟩
theorem spec8version (n : Int) (w : World) : Calls Tryd.prog 50 #[.int .i64 n] w fun e w' => e = .returned (.bool (decide (verOk n))) ∧ w' = w := by
  obtain ⟨R, hR, HT, HF⟩ := by_dec (verOk n)
  rw [hR]
  clear hR
  by_cases h1 : 0 ≤ n
  · by_cases h2 : n ≤ 1000
    all_goals
      go_enter Tryd.func50, Tryd.ntmps50
      go_wp2
      go_ret
      exact ⟨by first | (rw [HF.out (by omega)]; rfl) | (rw [HT.out (by omega)]; rfl), rfl⟩
  · go_enter Tryd.func50, Tryd.ntmps50
    go_wp2
    go_ret
    exact ⟨by first | (rw [HF.out (by omega)]; rfl) | (rw [HT.out (by omega)]; rfl), rfl⟩
theorem spec8part (k v s : Int) (a : Option Addr) (n c : Nat) (w : World) : Calls Tryd.prog 51 #[.agg #[.int .i64 k, .int .i64 v, .int .i64 s, .slice a n c]] w fun e w' => e = .returned (.bool (decide (partOk k v s n))) ∧ Below w.heap.size w w' := by
  obtain ⟨R, hR, HT, HF⟩ := by_dec (partOk k v s n)
  rw [hR]
  clear hR
  have B : Below w.heap.size w (w.alloc (.cells #[.int .i64 k, .int .i64 v, .int .i64 s, .slice a n c] 45)) := (Below.refl _ _).alloc (Nat.le_refl _) _
  obtain ⟨W, hW⟩ : ∃ W, W = w.alloc (.cells #[.int .i64 k, .int .i64 v, .int .i64 s, .slice a n c] 45) := ⟨_, rfl⟩
  have A : Arr W w.heap.size 45 [.int .i64 k, .int .i64 v, .int .i64 s, .slice a n c] := by rw [hW]; exact Arr.new _ _ _
  rw [← hW] at B
  have c0 := A.cell 0
  have c1 := A.cell 1
  have c2 := A.cell 2
  have c3 := A.cell 3
  simp at c0 c1 c2 c3
  clear A
  go_enter Tryd.func51, Tryd.ntmps51
  go_upto_region 1 with fail
  rw [← hW]
  clear hW
  by_cases h1 : 0 ≤ k
  · by_cases h2 : k < 4
    · by_cases hv : verOk v
      · by_cases h3 : 1 ≤ s
        · by_cases h4 : s ≤ 192
          · obtain ⟨q, hq, hq'⟩ : ∃ q, ((n : Int) == 32) = q ∧ Hid (q = decide (n = 32)) := ⟨_, rfl, by unfold Hid; by_cases h : n = 32 <;> simp [h]; omega⟩
            have HQ : Hid (R = q) := by
              unfold Hid; rw [hq'.out]
              by_cases h : n = 32
              · rw [HT.out (by omega), decide_eq_true h]
              · rw [HF.out (by omega), decide_eq_false h]
            go_wp2_with fail
            refine (spec8version v _).mono ?_
            rintro e w1 ⟨rfl, hw⟩
            rw [hw, decide_eq_true hv]
            go_wp2
            go_ret
            exact ⟨by rw [HQ.out]; rfl, B⟩
          · go_wp2_with fail
            refine (spec8version v _).mono ?_
            rintro e w1 ⟨rfl, hw⟩
            rw [hw, decide_eq_true hv]
            go_wp2
            go_ret
            exact ⟨by first | (rw [HF.out (by omega)]; rfl) | (rw [HT.out (by omega)]; rfl), B⟩
        · go_wp2_with fail
          refine (spec8version v _).mono ?_
          rintro e w1 ⟨rfl, hw⟩
          rw [hw, decide_eq_true hv]
          go_wp2
          go_ret
          exact ⟨by first | (rw [HF.out (by omega)]; rfl) | (rw [HT.out (by omega)]; rfl), B⟩
      · go_wp2_with fail
        refine (spec8version v _).mono ?_
        rintro e w1 ⟨rfl, hw⟩
        rw [hw, decide_eq_false hv]
        go_wp2
        go_ret
        exact ⟨by first | (rw [HF.out (by omega)]; rfl) | (rw [HT.out (by omega)]; rfl), B⟩
    · go_wp2
      go_ret
      exact ⟨by first | (rw [HF.out (by omega)]; rfl) | (rw [HT.out (by omega)]; rfl), B⟩
  · go_wp2
    go_ret
    exact ⟨by first | (rw [HF.out (by omega)]; rfl) | (rw [HT.out (by omega)]; rfl), B⟩
theorem spec8need (o f t k : Int) (w : World) : Calls Tryd.prog 52 #[.agg #[.int .i64 o, .int .i64 f, .int .i64 t, .int .i64 k]] w fun e w' => e = .returned (.bool (decide (needOk o f t k))) ∧ Below w.heap.size w w' := by
  obtain ⟨R, hR, HT, HF⟩ := by_dec (needOk o f t k)
  rw [hR]
  clear hR
  have B : Below w.heap.size w (w.alloc (.cells #[.int .i64 o, .int .i64 f, .int .i64 t, .int .i64 k] 41)) := (Below.refl _ _).alloc (Nat.le_refl _) _
  obtain ⟨W, hW⟩ : ∃ W, W = w.alloc (.cells #[.int .i64 o, .int .i64 f, .int .i64 t, .int .i64 k] 41) := ⟨_, rfl⟩
  have A : Arr W w.heap.size 41 [.int .i64 o, .int .i64 f, .int .i64 t, .int .i64 k] := by rw [hW]; exact Arr.new _ _ _
  rw [← hW] at B
  have c0 := A.cell 0
  have c1 := A.cell 1
  have c2 := A.cell 2
  have c3 := A.cell 3
  simp at c0 c1 c2 c3
  clear A
  go_enter Tryd.func52, Tryd.ntmps52
  go_upto_region 1 with fail
  rw [← hW]
  clear hW
  by_cases h1 : 0 ≤ k
  case neg => go_wp2; go_ret; exact ⟨by rw [HF.out (by omega)]; rfl, B⟩
  by_cases h2 : k < 4
  case neg => go_wp2; go_ret; exact ⟨by rw [HF.out (by omega)]; rfl, B⟩
  by_cases h3 : 0 ≤ o
  case neg => go_wp2; go_ret; exact ⟨by rw [HF.out (by omega)]; rfl, B⟩
  by_cases h4 : o < 4
  case neg => go_wp2; go_ret; exact ⟨by rw [HF.out (by omega)]; rfl, B⟩
  by_cases h5 : o = k
  case pos => go_wp2; go_ret; exact ⟨by rw [HF.out (by omega)]; rfl, B⟩
  have h5' : (o != k) = true := by simpa using h5
  by_cases hf : verOk f
  case neg =>
    go_wp2_with fail
    refine (spec8version f _).mono ?_
    rintro e w1 ⟨rfl, hw⟩
    rw [hw, decide_eq_false hf]
    go_wp2
    go_ret
    exact ⟨by rw [HF.out (by omega)]; rfl, B⟩
  by_cases ht : verOk t
  case neg =>
    go_wp2_with fail
    refine (spec8version f _).mono ?_
    rintro e w1 ⟨rfl, hw⟩
    rw [hw, decide_eq_true hf]
    go_wp2_with fail
    refine (spec8version t _).mono ?_
    rintro e w1 ⟨rfl, hw⟩
    rw [hw, decide_eq_false ht]
    go_wp2
    go_ret
    exact ⟨by rw [HF.out (by omega)]; rfl, B⟩
  obtain ⟨q, hq, hq'⟩ : ∃ q, decide (f ≤ t) = q ∧ Hid (R = q) := ⟨_, rfl, by
    unfold Hid
    by_cases h : f ≤ t
    · rw [HT.out (by omega), decide_eq_true h]
    · rw [HF.out (by omega), decide_eq_false h]⟩
  go_wp2_with fail
  refine (spec8version f _).mono ?_
  rintro e w1 ⟨rfl, hw⟩
  rw [hw, decide_eq_true hf]
  go_wp2_with fail
  refine (spec8version t _).mono ?_
  rintro e w1 ⟨rfl, hw⟩
  rw [hw, decide_eq_true ht]
  go_wp2
  go_ret
  exact ⟨by rw [hq'.out]; rfl, B⟩
end Go.Proofs.YtofflhhlacdgfaaDoor
namespace Go.Proofs.YtofflhhlacdgfaaDoor
open Go.RowKit
set_option maxRecDepth 100000
set_option maxHeartbeats 1000000

structure PartM where
  k : Int
  v : Int
  s : Int
  h : List Int
structure NeedM where
  o : Int
  f : Int
  t : Int
  k : Int
structure BunM where
  d : Int
  n : Int
  f : Int
  ps : List PartM
  ns : List NeedM
def pz : PartM := ⟨0, 0, 0, []⟩
def nz : NeedM := ⟨0, 0, 0, 0⟩
/-- The cells of the part at the place of a row. -/
structure PartAt (W : World) (b o : Nat) (p : PartM) (ha : Option Addr) (hc : Nat) : Prop where
  k : W.cell? ⟨b, o, none⟩ = some (.int .i64 p.k)
  v : W.cell? ⟨b, o + 1, none⟩ = some (.int .i64 p.v)
  s : W.cell? ⟨b, o + 2, none⟩ = some (.int .i64 p.s)
  h : W.cell? ⟨b, o + 3, none⟩ = some (.slice ha p.h.length hc)
  by_ : Bs W ha p.h.length hc p.h
structure NeedAt (W : World) (b q : Nat) (p : NeedM) : Prop where
  o : W.cell? ⟨b, q, none⟩ = some (.int .i64 p.o)
  f : W.cell? ⟨b, q + 1, none⟩ = some (.int .i64 p.f)
  t : W.cell? ⟨b, q + 2, none⟩ = some (.int .i64 p.t)
  k : W.cell? ⟨b, q + 3, none⟩ = some (.int .i64 p.k)
/-- What a slice of parts reads as. -/
def Ps (W : World) (a : Option Addr) (n c : Nat) (ps : List PartM) : Prop :=
  (a = none → c = 0) ∧ ps.length = n ∧ n ≤ c ∧ (n = 0 ∨ ∃ b o, a = some ⟨b, o, none⟩ ∧ b < W.heap.size ∧ ∀ i, i < n → ∃ ha hc, PartAt W b (o + i * 4) (ps.getD i pz) ha hc)
def Ns (W : World) (a : Option Addr) (n c : Nat) (ns : List NeedM) : Prop :=
  (a = none → c = 0) ∧ ns.length = n ∧ n ≤ c ∧ (n = 0 ∨ ∃ b o, a = some ⟨b, o, none⟩ ∧ b < W.heap.size ∧ ∀ i, i < n → NeedAt W b (o + i * 4) (ns.getD i nz))
section
variable {W W' : World} {a : Option Addr} {n c : Nat}
theorem PartAt.below {b o : Nat} {p : PartM} {ha : Option Addr} {hc : Nat} (h : PartAt W b o p ha hc) (l : b < W.heap.size) (hb : Below W.heap.size W W') : PartAt W' b o p ha hc :=
  ⟨(hb.cell (p := ⟨b, _, none⟩) l).trans h.k, (hb.cell (p := ⟨b, _, none⟩) l).trans h.v, (hb.cell (p := ⟨b, _, none⟩) l).trans h.s, (hb.cell (p := ⟨b, _, none⟩) l).trans h.h, h.by_.below hb⟩
theorem NeedAt.below {b o : Nat} {p : NeedM} (h : NeedAt W b o p) (l : b < W.heap.size) (hb : Below W.heap.size W W') : NeedAt W' b o p :=
  ⟨(hb.cell (p := ⟨b, _, none⟩) l).trans h.o, (hb.cell (p := ⟨b, _, none⟩) l).trans h.f, (hb.cell (p := ⟨b, _, none⟩) l).trans h.t, (hb.cell (p := ⟨b, _, none⟩) l).trans h.k⟩
theorem Ps.below {ps : List PartM} (h : Ps W a n c ps) (hb : Below W.heap.size W W') : Ps W' a n c ps := by
  obtain ⟨h0, h1, h2, h⟩ := h
  refine ⟨h0, h1, h2, ?_⟩
  rcases h with h | ⟨b, o, e, l, h⟩
  · exact .inl h
  · refine .inr ⟨b, o, e, Nat.lt_of_lt_of_le l hb.size, fun i hi => ?_⟩
    obtain ⟨ha, hc, k⟩ := h i hi
    exact ⟨ha, hc, k.below l hb⟩
theorem Ns.below {ns : List NeedM} (h : Ns W a n c ns) (hb : Below W.heap.size W W') : Ns W' a n c ns := by
  obtain ⟨h0, h1, h2, h⟩ := h
  refine ⟨h0, h1, h2, ?_⟩
  rcases h with h | ⟨b, o, e, l, h⟩
  · exact .inl h
  · exact .inr ⟨b, o, e, Nat.lt_of_lt_of_le l hb.size, fun i hi => (h i hi).below l hb⟩
end
/-- The place of a kind among parts. -/
def fnd (ps : List PartM) (kind : Int) : Int := match ps.findIdx? (fun p => p.k == kind) with | some i => (i : Int) | none => -1
theorem fnd_at {ps : List PartM} {kind : Int} {i : Nat} (hi : i < ps.length) (h : (ps.getD i pz).k = kind) (hn : ∀ j, j < i → (ps.getD j pz).k ≠ kind) : fnd ps kind = i := by
  have : ps.findIdx? (fun p => p.k == kind) = some i := by
    rw [List.findIdx?_eq_some_iff_getElem]
    refine ⟨hi, by simpa [List.getD, List.getElem?_eq_getElem hi] using h, fun j hj => ?_⟩
    have := hn j hj
    simpa [List.getD, List.getElem?_eq_getElem (Nat.lt_trans hj hi)] using this
  unfold fnd
  rw [this]
theorem fnd_no {ps : List PartM} {kind : Int} (hn : ∀ j, j < ps.length → (ps.getD j pz).k ≠ kind) : fnd ps kind = -1 := by
  have : ps.findIdx? (fun p => p.k == kind) = none := by
    rw [List.findIdx?_eq_none_iff]
    intro p hp
    obtain ⟨j, hj, rfl⟩ := List.mem_iff_getElem.1 hp
    have := hn j hj
    simpa [List.getD, List.getElem?_eq_getElem hj] using this
  unfold fnd
  rw [this]
end Go.Proofs.YtofflhhlacdgfaaDoor

/-
  What is proved here: what the program's table says of the specification's arrays of sixteen, and the prime's parts; no condition; plain facts on parts that are set one by one; no condition; the contract of the specification's l4out: a number of the field into a new slice of ints; what an answer of the field is; no condition.
-/
import Derived.Test.YtpchdfdeomhakaaDoorZD
import Derived.Test.YtpchdfdeomhakaaDoorZA
import Derived.Test.YtpchdfdeomhakaaDoorProg
import Derived.BigRegion
import Derived.Laws.BitsLemmas
import Derived.Test.YtpchdfdeomhakaaDoorZB
namespace Go.Proofs.YtpchdfdeomhakaaDoor
open Go.RowKit
set_option maxRecDepth 100000

theorem infoE : (Tryd.prog.info? 65).map (·.size) = some 16 := by kernel_rfl
theorem infoI : (Tryd.prog.info? 3).map (·.size) = some 1 := by kernel_rfl
/-- The prime's parts. -/
def PL : List Int := [65517, 65535, 65535, 65535, 65535, 65535, 65535, 65535, 65535, 65535, 65535, 65535, 65535, 65535, 65535, 32767]
theorem PL_len : PL.length = 16 := rfl
theorem PL_val : val PL = P25519 := by decide
theorem PL_lm : Lm PL := by unfold Lm PL; decide

abbrev Z16 : List Int := [0, 0, 0, 0, 0, 0, 0, 0, 0, 0, 0, 0, 0, 0, 0, 0]

end Go.Proofs.YtpchdfdeomhakaaDoor
namespace Go.Proofs.YtpchdfdeomhakaaDoor
open Go.RowKit
set_option maxRecDepth 100000

theorem set_app {f a : List Int} {k : Nat} (hf : f.length = k) (hk : k < a.length) (v : Int) : (I64 (f ++ a.drop k)).set k (.int .i64 v) = I64 ((f ++ [v]) ++ a.drop (k + 1)) := by
  subst hf
  have e : a.drop f.length = a.getD f.length 0 :: a.drop (f.length + 1) := by
    rw [List.drop_eq_getElem_cons hk]; simp [hk]
  rw [e]
  simp [List.set_append_right]
theorem get_app {f a : List Int} {k : Nat} (hf : f.length = k) : (f ++ a.drop k).getD k 0 = a.getD k 0 := by
  subst hf
  simp [List.getD, List.getElem?_append_right]
theorem len_app {f a : List Int} {k : Nat} (hf : f.length = k) (hk : k ≤ a.length) : (f ++ a.drop k).length = a.length := by
  simp [hf]; omega
theorem take_app (a : List Int) (k : Nat) (h : k < a.length) : a.take (k + 1) = a.take k ++ [a.getD k 0] := by
  rw [List.take_add_one, List.getD, List.getElem?_eq_getElem h]; rfl
theorem i64_low16 {x : Int} (h0 : 0 ≤ x) (h1 : x < 9223372036854775808) : bits .and .i64 x 65535 = x % 65536 :=
  bits_mask .i64 63 (by decide) (fun n a b => by rw [IntKind.wrap_i64]; omega) 16 (by decide) x h0 h1
theorem i64_low15 {x : Int} (h0 : 0 ≤ x) (h1 : x < 9223372036854775808) : bits .and .i64 x 32767 = x % 32768 :=
  bits_mask .i64 63 (by decide) (fun n a b => by rw [IntKind.wrap_i64]; omega) 15 (by decide) x h0 h1

theorem cpc_sub {a b : List Int} (ha : Lm a) (hb : Lm b) : ∀ {c : Int}, (c = 0 ∨ c = -1) → (cpc (List.zipWith (fun x y => x - y) a b) c = 0 ∨ cpc (List.zipWith (fun x y => x - y) a b) c = -1) := by
  induction a generalizing b with
  | nil => intro c hc; simpa [cpc] using hc
  | cons x a ih =>
    cases b with
    | nil => intro c hc; simpa [cpc] using hc
    | cons y b =>
      intro c hc
      have hx := ha x (by simp)
      have hy := hb y (by simp)
      simp only [List.zipWith_cons_cons, cpc]
      exact ih (fun z hz => ha z (by simp [hz])) (fun z hz => hb z (by simp [hz])) (by omega)
theorem gD_lm {a : List Int} (h : Lm a) (k : Nat) : 0 ≤ a.getD k 0 ∧ a.getD k 0 < 65536 := by
  by_cases hk : k < a.length
  · have : a.getD k 0 ∈ a := by rw [List.getD_eq_getElem?_getD, List.getElem?_eq_getElem hk]; exact List.getElem_mem _
    exact h _ this
  · rw [List.getD_eq_getElem?_getD, List.getElem?_eq_none (by omega)]; simp

end Go.Proofs.YtpchdfdeomhakaaDoor
namespace Go.Proofs.YtpchdfdeomhakaaDoor
open Go.RowKit
set_option maxRecDepth 100000

theorem own_other' {w : World} {b e s n : Nat} {v : Value} {xs : List Value} (h : w.ownsRow b e s v n xs) (p : Addr) (u : Value) (hp : p.block < b) : (w.setCell p u).ownsRow b e s v n xs := by
  refine ⟨h.1, ?_⟩
  rcases h.2 with hn | ⟨g, cap, cur, rfl, hg, hgg, rest⟩
  · exact .inl hn
  · refine .inr ⟨g, cap, cur, rfl, hg, ?_, rest⟩
    rw [heap_setCell_other w p g u (by omega)]
    exact hgg


set_option maxHeartbeats 1000000 in
theorem specOut (l : List Int) (w : World) (hl : l.length = 16) (hm : Lm l) :
    Calls Tryd.prog 61 #[.agg (I64 l).toArray] w fun e w' => ∃ a c, e = .returned (.agg #[.slice a 16 c]) ∧ w'.ownsRow w.heap.size 3 1 (.slice a 16 c) 16 (I64 l) ∧ Below w.heap.size w w' := by
  obtain ⟨A, hA⟩ : ∃ A, A = (I64 l).toArray := ⟨_, rfl⟩
  rw [← hA]
  obtain ⟨W, hW⟩ : ∃ W, W = (w.alloc (.cells A 65)).alloc (.cells #[.slice none 0 0] 25) := ⟨_, rfl⟩
  have g0 : Arr W w.heap.size 65 (I64 l) := by rw [hW, hA]; exact (Arr.new w (I64 l) _).alloc _
  have g1 : Arr W (w.heap.size + 1) 25 [.slice none 0 0] := by
    rw [hW]
    have := Arr.new (w.alloc (.cells A 65)) [.slice none 0 0] 25
    rw [World.size_alloc] at this
    exact this
  have gB : Below w.heap.size w W := by rw [hW]; exact ((Below.refl _ _).alloc (Nat.le_refl _) _).alloc (by simp) _
  clear hA
  go_enter Tryd.func61, Tryd.ntmps61
  go_wp2
  go_loopw [3, 4] (fun v i wr => ∃ k : Nat, k ≤ 16 ∧ i = .int .i64 k ∧ wr.ownsRow (w.heap.size + 2) 3 1 v k (I64 (l.take k)) ∧ Arr wr w.heap.size 65 (I64 l) ∧ Arr wr (w.heap.size + 1) 25 [.slice none 0 0] ∧ Below w.heap.size w wr ∧ w.heap.size + 2 ≤ wr.heap.size) (fun _ i _ => 16 - (intOf i).toNat)
  case atStart => exact ⟨0, by omega, rfl, by simpa using World.ownsRow_nil _ _ _ _, hW ▸ g0, hW ▸ g1, hW ▸ gB, by simp⟩
  case round =>
    clear g0 g1 gB hW
    obtain ⟨k, hk, rfl, ho, g0, g1, gB, gs⟩ := hrel
    by_cases hlt : k < 16
    · obtain ⟨x, hx⟩ : ∃ x, x = l.getD k 0 := ⟨_, rfl⟩
      have hck := g0.i64 k (by omega)
      rw [← hx] at hck
      have hxb := gD_lm hm k
      rw [← hx] at hxb
      have hts := take_app l k (by omega)
      rw [← hx] at hts
      have HTS : Hid _ := hts
      have hk16 : (k : Int) < 16 := by omega
      have hk0 : (0 : Int) ≤ (k : Int) := by omega
      clear hts hx
      go_wp2_with (at_builtin; refine wpl_append_is rfl _ _ rfl (w.heap.size + 2) _ k (l.take k) rfl (some ⟨wr.heap.size, 0, none⟩) 1 1 [x] rfl (ho.alloc _) ?_ ?_ ?_ ?_)
      · exact Is.one _ _ (by omega) (by omega)
      · omega
      · first | omega | (simp; omega)
      intro v' w' h1 h2 _
      have hbA : Below (w.heap.size + 2) wr w' := ((Below.refl _ _).alloc (by omega) _).grown h2 (by simp; omega) (fun j hj => (ho.lt j hj).1)
      have g0' := g0.below hbA (by omega)
      have g1' := g1.below hbA (by omega)
      have gB' := gB.trans (hbA.mono (by omega))
      have gs' := Nat.le_trans gs hbA.size
      have HR : Hid (w'.ownsRow (w.heap.size + 2) 3 1 v' (k + 1) (I64 (l.take (k + 1)))) := by
        unfold Hid
        rw [HTS.out]; simpa using h1
      clear h1 h2 ho g0 g1 gB hbA HTS hck
      go_wp2
      go_roundw
      case rel => exact ⟨k + 1, by omega, by go_num, HR.out, g0', g1', gB', gs'⟩
      case measure => simp [intOf]; omega
    · obtain rfl : k = 16 := by omega
      rw [List.take_of_length_le (by omega)] at ho
      obtain ⟨a, c, rfl, _, _⟩ := Is.own ho (fun x hx => by have := hm x hx; omega)
      have c1 : wr.cell? ⟨w.heap.size + 1, 0, none⟩ = some (.slice none 0 0) := g1.cell 0
      have hf1 := g1.frozen 0
      have g1' := g1.set 0 (.slice a 16 c)
      have gB' := gB.setCell (p := ⟨w.heap.size + 1, 0, none⟩) (by simp) (.slice a 16 c)
      have ho' := own_base (own_other' ho ⟨w.heap.size + 1, 0, none⟩ (.slice a 16 c) (by show w.heap.size + 1 < w.heap.size + 2; omega)) (show w.heap.size ≤ w.heap.size + 2 by omega)
      have G1 : Hid _ := g1'
      have GB : Hid _ := gB'
      have HO : Hid _ := ho'
      clear g1' gB' ho' g0 g1 gB ho
      go_wp2
      exact bodyPost_ret (results_cell_row rfl _ _ (w.heap.size + 1) 25 _ (0, 0) _ rfl G1.out Tryd.underlying25 rfl (by kernel_rfl)) rfl ⟨a, c, rfl, HO.out, GB.out⟩
end Go.Proofs.YtpchdfdeomhakaaDoor
namespace Go.Proofs.YtpchdfdeomhakaaDoor
open Go.RowKit
set_option maxRecDepth 100000

/-- An answer that is a number of the field, in memory of its own. -/
def FeIs (w w' : World) (v : Value) (l : List Int) : Prop := ∃ a c, v = .agg #[.slice a l.length c] ∧ w'.ownsRow w.heap.size 3 1 (.slice a l.length c) l.length (I64 l)
theorem feIs_nil (w w' : World) : FeIs w w' (.agg #[.slice none 0 0]) [] := ⟨none, 0, rfl, World.ownsRow_nil _ _ _ _⟩
theorem feIs_16 {w w' : World} {a : Option Addr} {c : Nat} {l : List Int} (hl : l.length = 16) (h : w'.ownsRow w.heap.size 3 1 (.slice a 16 c) 16 (I64 l)) : FeIs w w' (.agg #[.slice a 16 c]) l := ⟨a, c, by rw [hl], by rw [hl]; exact h⟩

theorem infoFe : (Tryd.prog.info? 25).map (·.size) = some 1 := by kernel_rfl
def ofN (n : Int) : List Int := if n < 0 then [] else lim 16 n

end Go.Proofs.YtpchdfdeomhakaaDoor

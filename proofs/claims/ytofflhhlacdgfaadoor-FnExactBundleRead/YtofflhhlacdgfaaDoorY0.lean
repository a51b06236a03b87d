/-
  What is proved here: a bundle's bytes as plain data; what PutNum of both sides and the program's putNums do on rows of their own.
-/
import Derived.Test.YtofflhhlacdgfaaDoorA1Num
import Derived.Test.YtofflhhlacdgfaaDoorA1Put
import Derived.Test.YtofflhhlacdgfaaDoorJM17
import Derived.Test.YtofflhhlacdgfaaDoorTm
namespace Go.Proofs.YtofflhhlacdgfaaDoor
open Go.RowKit Ma
set_option maxRecDepth 100000
set_option maxHeartbeats 4000000
set_option linter.unusedVariables false

/-- Numbers, one behind the other. -/
def nsB : List Int → List Int
  | [] => []
  | x :: t => numB x ++ nsB t
theorem nsB_snoc : ∀ (l : List Int) (x : Int), nsB (l ++ [x]) = nsB l ++ numB x
  | [], x => by simp [nsB]
  | y :: t, x => by
    show numB y ++ nsB (t ++ [x]) = _
    rw [nsB_snoc t x]
    simp [nsB]
theorem nsB_len : ∀ (l : List Int), (nsB l).length ≤ 5 * l.length
  | [] => by simp [nsB]
  | x :: t => by
    have := nsB_len t
    have := numB_len x
    simp [nsB]
    omega
theorem nsB_byte : ∀ (l : List Int), ∀ x ∈ nsB l, 0 ≤ x ∧ x < 256
  | [], x, h => by simp [nsB] at h
  | y :: t, x, h => by
    simp only [nsB, List.mem_append] at h
    rcases h with h | h
    · exact numB_byte y x h
    · exact nsB_byte t x h
def ptB (p : PartM) : List Int := nsB [p.k, p.v, p.s] ++ p.h
def ndB (q : NeedM) : List Int := nsB [q.o, q.k, q.f, q.t]
def psB : List PartM → List Int
  | [] => []
  | p :: t => ptB p ++ psB t
def qsB : List NeedM → List Int
  | [] => []
  | p :: t => ndB p ++ qsB t
theorem psB_snoc : ∀ (l : List PartM) (x : PartM), psB (l ++ [x]) = psB l ++ ptB x
  | [], x => by simp [psB]
  | y :: t, x => by
    show ptB y ++ psB (t ++ [x]) = _
    rw [psB_snoc t x]
    simp [psB]
theorem qsB_snoc : ∀ (l : List NeedM) (x : NeedM), qsB (l ++ [x]) = qsB l ++ ndB x
  | [], x => by simp [qsB]
  | y :: t, x => by
    show ndB y ++ qsB (t ++ [x]) = _
    rw [qsB_snoc t x]
    simp [qsB]
def hdB (B : BunM) : List Int := nsB [B.d, B.n, B.f, (B.ps.length : Int)]
/-- A bundle's bytes. -/
def buB (B : BunM) : List Int := hdB B ++ psB B.ps ++ nsB [(B.ns.length : Int)] ++ qsB B.ns
abbrev ByL (xs : List Int) : Prop := ∀ x ∈ xs, 0 ≤ x ∧ x < 256
theorem ByL.app {xs ys : List Int} (h : ByL xs) (h' : ByL ys) : ByL (xs ++ ys) := fun x hx => by
  rw [List.mem_append] at hx
  rcases hx with hx | hx
  · exact h x hx
  · exact h' x hx
abbrev psBy (ps : List PartM) : Prop := ∀ q, q < ps.length → ∀ x ∈ (ps.getD q pz).h, 0 ≤ x ∧ x < 256
theorem psB_byte : ∀ (l : List PartM), psBy l → ByL (psB l)
  | [], _ => by intro x h; simp [psB] at h
  | y :: t, h => by
    have h0 : ByL y.h := fun x hx => h 0 (by simp) x hx
    have h1 := psB_byte t (fun q hq x hx => h (q + 1) (by simpa using hq) x (by simpa using hx))
    exact ByL.app (ByL.app (nsB_byte _) h0) h1
theorem qsB_byte : ∀ (l : List NeedM), ByL (qsB l)
  | [] => by intro x h; simp [qsB] at h
  | y :: t => ByL.app (nsB_byte _) (qsB_byte t)
theorem psB_len : ∀ (l : List PartM), (∀ q, q < l.length → (l.getD q pz).h.length ≤ 32) → (psB l).length ≤ 47 * l.length
  | [], _ => by simp [psB]
  | y :: t, h => by
    have h1 := psB_len t (fun q hq => by simpa using h (q + 1) (by simpa using hq))
    have h0 : y.h.length ≤ 32 := h 0 (by simp)
    have := nsB_len [y.k, y.v, y.s]
    simp [psB, ptB] at this ⊢
    omega
theorem qsB_len : ∀ (l : List NeedM), (qsB l).length ≤ 20 * l.length
  | [] => by simp [qsB]
  | y :: t => by
    have h1 := qsB_len t
    have := nsB_len [y.o, y.k, y.f, y.t]
    simp [qsB, ndB] at this ⊢
    omega
/-- A row of bytes of its own, as what an operation leaves. -/
abbrev kr (d lo : Nat) (xs : List Int) : Kd := kv d (fun _ _ w v => w.ownsRow lo 5 1 v xs.length (U8 xs))
theorem kr_keeps (d lo : Nat) (xs : List Int) : Kd.keeps (kr d lo xs) := fun _ _ _ _ _ h _ b => own_below h b
theorem specPutR (lo lo' : Nat) (v : Value) (xs : List Int) (N : Int) (w : World) (h : w.ownsRow lo' 5 1 v xs.length (U8 xs)) (hy : ByL xs) (hn : xs.length ≤ 100000) (hlo : lo ≤ w.heap.size) :
    Calls Tryd.prog 110 #[v, .int .i64 N] w fun e w' => ∃ u, e = .returned u ∧ w'.ownsRow lo 5 1 u (xs ++ numB N).length (U8 (xs ++ numB N)) ∧ Below w.heap.size w w' := by
  obtain ⟨a, c, rfl, _, hB⟩ := Bs.own h hy
  refine (specPut a xs.length c xs N w hB (by omega)).mono ?_
  rintro e w' ⟨u, rfl, o, hb⟩
  rw [List.length_append]
  exact ⟨u, rfl, own_base o hlo, hb⟩
theorem implPutR (lo lo' : Nat) (v : Value) (xs : List Int) (N : Int) (w : World) (h : w.ownsRow lo' 5 1 v xs.length (U8 xs)) (hy : ByL xs) (hn : xs.length ≤ 100000) (hlo : lo ≤ w.heap.size) :
    Calls Tryd.prog 99 #[v, .int .i64 N] w fun e w' => ∃ u, e = .returned u ∧ w'.ownsRow lo 5 1 u (xs ++ numB N).length (U8 (xs ++ numB N)) ∧ Below w.heap.size w w' := by
  obtain ⟨a, c, rfl, _, hB⟩ := Bs.own h hy
  refine (implPut a xs.length c xs N w hB (by omega)).mono ?_
  rintro e w' ⟨u, rfl, o, hb⟩
  rw [List.length_append]
  exact ⟨u, rfl, own_base o hlo, hb⟩
theorem tput {P : Program} {ev : Operand → Value} {o : Oper} {d lo : Nat} {w : World} {X : Prop} {f : FuncId} {args : Array Value} {xs : List Int}
    (hc : X → Calls P f args w fun e w' => ∃ u, e = .returned u ∧ w'.ownsRow lo 5 1 u xs.length (U8 xs) ∧ Below w.heap.size w w') (h : (execOp ev o).run P w = .ok (.enter f args) w) : Dty X (TOb P ev o (kr d lo xs) w) :=
  tr (fun x => (hc x).mono (by rintro e w' ⟨u, rfl, o, hb⟩; exact ⟨u, rfl, u, rfl, hb, o⟩)) h
theorem implPutNums (lo : Nat) (v : Value) (xs : List Int) (a : Option Addr) (m c : Nat) (ns : List Int) (w : World) (h : w.ownsRow lo 5 1 v xs.length (U8 xs)) (hy : ByL xs) (hn : xs.length ≤ 50000) (hlo : lo ≤ w.heap.size) (hI : Is w a m c ns) (hm : m ≤ 100) :
    Calls Tryd.prog 48 #[v, .slice a m c] w fun e w' => ∃ u, e = .returned u ∧ w'.ownsRow lo 5 1 u (xs ++ nsB ns).length (U8 (xs ++ nsB ns)) ∧ Below w.heap.size w w' := by
  have HL : Hid (ns.length = m) := hI.2.1
  have HI : Hid (Is w a m c ns) := hI
  have HO : Hid (w.ownsRow lo 5 1 v xs.length (U8 xs)) := h
  have HY : Hid (ByL xs) := hy
  clear hI h hy
  go_enter Tryd.func48, Tryd.ntmps48
  go_wp2
  go_loopw [0, 9] (fun u i wr => ∃ k : Nat, k ≤ m ∧ i = .int .i64 k ∧ Hid (wr.ownsRow lo 5 1 u (xs ++ nsB (ns.take k)).length (U8 (xs ++ nsB (ns.take k)))) ∧ Below w.heap.size w wr) (fun _ i _ => m - (intOf i).toNat)
  case atStart => exact ⟨0, by omega, rfl, by have := HO.out; unfold Hid; simpa [nsB] using this, Below.refl _ _⟩
  case round =>
    clear HO
    obtain ⟨k, hk, rfl, HO, B⟩ := hrel
    by_cases hlt : k < m
    · obtain ⟨b, o, rfl, hbs, hcell⟩ : ∃ b o, a = some ⟨b, o, none⟩ ∧ b < w.heap.size ∧ ∀ i, i < m → w.cell? ⟨b, o + i, none⟩ = some (.int .i64 (ns.getD i 0)) := by
        rcases HI.out.2.2.2.2 with h | h
        · omega
        · exact h
      have hck := (B.cell (p := ⟨b, _, none⟩) hbs).trans (hcell k hlt)
      have HS : Hid (nsB (ns.take (k + 1)) = nsB (ns.take k) ++ numB (ns.getD k 0)) := by
        unfold Hid
        have hl := HL.out
        rw [List.take_succ_eq_append_getElem (by omega), nsB_snoc]
        simp [show k < ns.length by omega]
      obtain ⟨x, hx⟩ : ∃ x, x = ns.getD k 0 := ⟨_, rfl⟩
      rw [← hx] at hck HS
      have hnl := nsB_len (ns.take k)
      have htk : (ns.take k).length ≤ k := by simp; omega
      obtain ⟨X, hX⟩ : ∃ X, X = xs ++ nsB (ns.take k) := ⟨_, rfl⟩
      have hXl : X.length ≤ 60000 := by rw [hX, List.length_append]; omega
      have HXy : Hid (ByL X) := by unfold Hid; rw [hX]; exact HY.out.app (nsB_byte _)
      have HSX : Hid (xs ++ nsB (ns.take (k + 1)) = X ++ numB x) := by unfold Hid; rw [HS.out, hX]; simp
      rw [← hX] at HO
      have zB := B.size
      clear hx hcell hX htk hnl HS
      go_wp2_with fail
      refine (implPutR lo lo _ X x _ HO.out HXy.out (by omega) (by omega)).mono ?_
      rintro e w2 ⟨u2, rfl, o2, hb2⟩
      have HO2 : Hid (w2.ownsRow lo 5 1 u2 (xs ++ nsB (ns.take (k + 1))).length (U8 (xs ++ nsB (ns.take (k + 1))))) := by unfold Hid; rw [HSX.out]; exact o2
      have B2 := B.trans (hb2.mono B.size)
      clear o2 hb2 B HO hck
      go_wp2
      go_roundw
      case rel => exact ⟨k + 1, by omega, by go_num, HO2, B2⟩
      case measure => simp [intOf]; omega
    · have hkm : k = m := by omega
      subst hkm
      have htk : ns.take k = ns := List.take_of_length_le (by have := HL.out; omega)
      rw [htk] at HO
      clear htk
      go_wp2
      go_ret
      exact ⟨_, rfl, HO.out, B⟩
end Go.Proofs.YtofflhhlacdgfaaDoor

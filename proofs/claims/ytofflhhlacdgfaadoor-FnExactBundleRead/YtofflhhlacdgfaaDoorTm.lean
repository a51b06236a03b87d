/-
  What is proved here: a law on a region that draws its order: where each operation, walked once over the values of all, leaves its value and makes new memory alone, whatever order is drawn comes to the same; no program is spoken of, no condition.
-/
import Derived.Test.YtofflhhlacdgfaaDoorJM2
import Derived.Deep.MidRow
namespace Go.Proofs.YtofflhhlacdgfaaDoor
open Go.RowKit

/-- What an operation leaves: where; its value, by the count of blocks ahead of it and a value of its own; what is so of memory behind it. -/
abbrev Kd := Option Tmp × (Nat → Value → Value) × (Nat → Nat → World → Value → Prop)
abbrev kc (d : Nat) (c : Value) : Kd := (some d, (fun _ _ => c), fun _ _ _ _ => True)
abbrev kn : Kd := (none, (fun _ _ => undef), fun _ _ _ _ => True)
abbrev ka (d : Nat) (t : TypeId) (cs : List Value) : Kd := (some d, (fun l _ => .pointer (some ⟨l, 0, none⟩)), fun l h w _ => Arr w l t cs ∧ l < h)
abbrev kv (d : Nat) (D : Nat → Nat → World → Value → Prop) : Kd := (some d, (fun _ v => v), D)

def Kd.keeps (k : Kd) : Prop := ∀ l h w w' v, k.2.2 l h w v → h ≤ w.heap.size → Below w.heap.size w w' → k.2.2 l h w' v
theorem kc_keeps (d : Nat) (c : Value) : Kd.keeps (kc d c) := fun _ _ _ _ _ _ _ _ => trivial
theorem kn_keeps : Kd.keeps kn := fun _ _ _ _ _ _ _ _ => trivial
theorem ka_keeps (d : Nat) (t : TypeId) (cs : List Value) : Kd.keeps (ka d t cs) := fun _ _ _ _ _ h _ b => ⟨h.1.kept b, h.2⟩

def putT (T : Array Value) : Option Tmp → Value → Array Value
  | some d, v => T.setIfInBounds d v
  | none, _ => T
/-- The temporaries with every value in its place. -/
def fillK (V : Nat → Value) (L : Nat → Nat) : Nat → List Kd → Array Value → Array Value
  | _, [], T => T
  | i, k :: ks, T => fillK V L (i + 1) ks (putT T k.1 (k.2.1 (L i) (V i)))

theorem fillK_size (V : Nat → Value) (L : Nat → Nat) : ∀ (ks : List Kd) (i : Nat) (T : Array Value), (fillK V L i ks T).size = T.size
  | [], _, _ => rfl
  | k :: ks, i, T => by
    unfold fillK
    rw [fillK_size V L ks]
    cases k.1 <;> simp [putT]
/-- A place that none of them writes. -/
theorem fillK_far (V : Nat → Value) (L : Nat → Nat) (t : Nat) : ∀ (ks : List Kd) (i : Nat) (T : Array Value), (∀ k ∈ ks, k.1 ≠ some t) → (fillK V L i ks T)[t]? = T[t]?
  | [], _, _, _ => rfl
  | k :: ks, i, T, h => by
    unfold fillK
    rw [fillK_far V L t ks (i + 1) _ (fun k hk => h k (List.mem_cons_of_mem _ hk))]
    have := h k (List.mem_cons_self ..)
    cases hk : k.1 with
    | none => rfl
    | some d =>
      have hne : d ≠ t := fun e => this (by rw [hk, e])
      simp [putT, Array.getElem?_setIfInBounds_ne hne]
theorem fillK_at (V : Nat → Value) (L : Nat → Nat) (t : Nat) : ∀ (ks : List Kd) (i j : Nat) (k : Kd) (T : Array Value), ks[j]? = some k → k.1 = some t → t < T.size →
    (∀ j' k', ks[j']? = some k' → k'.1 = some t → j' = j) → (fillK V L i ks T)[t]? = some (k.2.1 (L (i + j)) (V (i + j)))
  | [], _, _, _, _, h, _, _, _ => by simp at h
  | k0 :: ks, i, 0, k, T, h, hd, ht, hu => by
    simp at h
    subst h
    unfold fillK
    rw [fillK_far V L t ks (i + 1) _ (fun k' hk' hd' => by
      obtain ⟨j', hj'⟩ := List.mem_iff_getElem?.1 hk'
      have := hu (j' + 1) k' (by simpa using hj') hd'
      omega)]
    rw [hd]
    simp [putT, ht]
  | k0 :: ks, i, j + 1, k, T, h, hd, ht, hu => by
    unfold fillK
    have hs : (putT T k0.1 (k0.2.1 (L i) (V i))).size = T.size := by cases k0.1 <;> simp [putT]
    have := fillK_at V L t ks (i + 1) j k (putT T k0.1 (k0.2.1 (L i) (V i))) (by simpa using h) hd (by omega) (fun j' k' h1 h2 => by
      have := hu (j' + 1) k' (by simpa using h1) h2
      omega)
    rw [this, show i + 1 + j = i + (j + 1) by omega]

/-- What an operation comes to, walked over the values of all. -/
def Res (k : Kd) (w : World) (v : Value) (w' : World) : Prop := ∃ u, v = k.2.1 w.heap.size u ∧ Below w.heap.size w w' ∧ k.2.2 w.heap.size w'.heap.size w' u
def TObR (P : Program) (ev : Operand → Value) (o : Oper) (k : Kd) (w : World) : Prop :=
  match (execOp ev o).run P w with
  | .ok (.value v) w' => Res k w v w'
  | .ok .skip w' => Res k w undef w'
  | .ok (.enter f args) w' => Calls P f args w' fun e w'' => match e with
      | .returned v => Res k w v w''
      | _ => False
  | .ok (.row row args) w' => Rows P row args w' fun v w'' => Res k w v w''
  | _ => False
structure TOb (P : Program) (ev : Operand → Value) (o : Oper) (k : Kd) (w : World) : Prop where
  out : TObR P ev o k w

section
variable {P : Program} {ops : Array Oper} {Q : Exit → Act → World → Prop}

theorem TOb.wp {a : Act} {ev : Operand → Value} {o : Oper} {k : Kd} {w : World} (h : TOb P ev o k w) (he : execOp a.eval o = execOp ev o) {K : Act → World → Prop}
    (hK : ∀ v w', Res k w v w' → K (a.put o.dst v) w') : Oper.wp P o a w K Q := by
  replace h := h.out
  unfold TObR at h
  unfold Oper.wp
  rw [he]
  generalize (execOp ev o).run P w = r at *
  cases r with
  | ok n w' =>
    cases n <;> simp only [Oper.upon] at h ⊢
    case value => exact hK _ _ h
    case skip => exact hK _ _ h
    case enter =>
      refine Calls.mono h fun e w'' he => ?_
      cases e with
      | returned v => exact hK _ _ he
      | panicked c => exact he.elim
      | outgrown => exact he.elim
    case row => exact Rows.mono h fun v w'' he => hK _ _ he
  | halt x w' => exact h.elim

/-- The duty of operation o. -/
def Ob (P : Program) (ops : Array Oper) (T : Array Value) (o : Oper) (k : Kd) (w : World) : Prop :=
  if Region.wanted o (yielded ops T) = true then TOb P (Act.eval ⟨T, []⟩) o k w else Res k w undef w
/-- What is so of the operations that o waits for. -/
def Aft (ks : List Kd) (V : Nat → Value) (L H : Nat → Nat) (w : World) (o : Oper) : Prop :=
  ∀ e ∈ o.after, Region.binds .any e = true → ∀ k, ks[e.on]? = some k → k.2.2 (L e.on) (H e.on) w (V e.on)
structure Dty (X Y : Prop) : Prop where
  out : X → Y
def Obs (P : Program) (ops : Array Oper) (all : List Kd) (V : Nat → Value) (L H : Nat → Nat) (T : Array Value) (w : World) : List Oper → List Kd → Prop
  | o :: os, k :: ks => Dty (Aft all V L H w o) (Ob P ops T o k w) ∧ Obs P ops all V L H T w os ks
  | _, _ => True
def Fct (V : Nat → Value) (L H : Nat → Nat) (w : World) : Nat → List Kd → Prop
  | _, [] => True
  | i, k :: ks => k.2.2 (L i) (H i) w (V i) ∧ Fct V L H w (i + 1) ks
def Kps : List Kd → Prop
  | [] => True
  | k :: ks => k.keeps ∧ Kps ks
theorem Kps.get : ∀ {ks : List Kd}, Kps ks → ∀ (i : Nat) (k : Kd), ks[i]? = some k → k.keeps
  | [], _, _, _, h => by simp at h
  | k0 :: ks, hk, 0, k, h => by simp at h; subst h; exact hk.1
  | k0 :: ks, hk, i + 1, k, h => Kps.get (ks := ks) hk.2 i k (by simpa using h)
theorem Obs.get {all : List Kd} {V : Nat → Value} {L H : Nat → Nat} {T : Array Value} {w : World} : ∀ {os : List Oper} {ks : List Kd}, Obs P ops all V L H T w os ks →
    ∀ (i : Nat) (o : Oper) (k : Kd), os[i]? = some o → ks[i]? = some k → Aft all V L H w o → Ob P ops T o k w
  | [], _, _, _, _, _, h, _, _ => by simp at h
  | _ :: _, [], _, _, _, _, _, h, _ => by simp at h
  | o0 :: os, k0 :: ks, ho, 0, o, k, h1, h2, ha => by simp at h1 h2; subst h1; subst h2; exact ho.1.out ha
  | o0 :: os, k0 :: ks, ho, i + 1, o, k, h1, h2, ha => Obs.get (os := os) (ks := ks) ho.2 i o k (by simpa using h1) (by simpa using h2) ha
theorem Fct.of {V : Nat → Value} {L H : Nat → Nat} {w : World} : ∀ (ks : List Kd) (i : Nat), (∀ (j : Nat) (k : Kd), ks[j]? = some k → k.2.2 (L (i + j)) (H (i + j)) w (V (i + j))) → Fct V L H w i ks
  | [], _, _ => trivial
  | k :: ks, i, h => ⟨h 0 k rfl, Fct.of ks (i + 1) (fun j k' hj => by
      have := h (j + 1) k' (by simpa using hj)
      rw [show i + 1 + j = i + (j + 1) by omega]; exact this)⟩

/-- Operation i waits for operation j, or for one that does. -/
def waits (ops : Array Oper) : Nat → Nat → Nat → Bool
  | 0, _, _ => false
  | f + 1, i, j => match ops[i]? with
    | none => false
    | some o => o.after.toList.any fun e => Region.binds .any e && (e.on == j || waits ops f e.on j)

/-- The form that is asked of a region: the first operations are those of the list; each writes a place of its own; each looks at what it waits for, or at what none of them writes; the rest waits for all of them. -/
def okT (ops : Array Oper) (ds : List (Option Tmp)) (sz : Nat) : Bool :=
  Region.noSelect ops && decide (ds.length ≤ ops.size) &&
  (List.range ops.size).all fun i => match ops[i]? with
    | none => false
    | some o =>
      if i < ds.length then
        ds[i]? == some o.dst && (o.after.toList.all fun e => !Region.binds .any e || decide (e.on < i)) &&
        (match o.dst with
         | some d => decide (d < sz) && (List.range ds.length).all fun j => j == i || ds[j]? != some (some d)
         | none => true) &&
        (o.looksAt ops).all fun t => (List.range ds.length).all fun j => ds[j]? != some (some t) || o.after.toList.any fun e => Region.binds .any e && e.on == j
      else true
/-- What operation p waits for itself. -/
def deps (ops : Array Oper) (p : Nat) : Array Bool := ((List.range ops.size).map fun j => match ops[p]? with
  | none => false
  | some o => o.after.toList.any fun e => Region.binds .any e && e.on == j).toArray
theorem deps_of {ops : Array Oper} {p j : Nat} {o : Oper} {listed : Array Bool} (ho : ops[p]? = some o) (hj : j < ops.size) (hall : ∀ e ∈ o.after, Region.binds .any e = true → listed.getD e.on false = true) (hn : listed.getD j false = false) : (deps ops p).getD j true = false := by
  unfold deps
  simp only [ho]
  cases hx : (o.after.toList.any fun e => Region.binds .any e && e.on == j) with
  | false => simp [hj]; simpa using hx
  | true =>
    exfalso
    simp only [List.any_eq_true, Bool.and_eq_true, beq_iff_eq] at hx
    obtain ⟨e, he, hb, rfl⟩ := hx
    rw [hall e (by simpa using he) hb] at hn
    cases hn
/-- The rest waits for all of them but the late ones, which may be taken first as soon as what they wait for has come up. -/
def okRs (ops : Array Oper) (m : Nat) (late : List Nat) : Bool :=
  ((List.range ops.size).all fun i => decide (i < m) || (List.range m).all fun j => late.contains j || waits ops 8 i j) &&
  late.all fun p => decide (p < m) && Region.free .any ops (deps ops p) p

structure OkT (ops : Array Oper) (ds : List (Option Tmp)) (sz : Nat) : Prop where
  sel : ∀ (j : Nat) (o : Oper) cs b, ops[j]? = some o → o.op ≠ .select cs b
  len : ds.length ≤ ops.size
  dst : ∀ i o, ops[i]? = some o → i < ds.length → ds[i]? = some o.dst
  back : ∀ i o, ops[i]? = some o → i < ds.length → ∀ e ∈ o.after, Region.binds .any e = true → e.on < i
  lt : ∀ i o d, ops[i]? = some o → i < ds.length → o.dst = some d → d < sz
  one : ∀ i o d, ops[i]? = some o → i < ds.length → o.dst = some d → ∀ j, j < ds.length → ds[j]? = some (some d) → j = i
  look : ∀ i o, ops[i]? = some o → i < ds.length → ∀ t ∈ o.looksAt ops, ∀ j, j < ds.length → ds[j]? = some (some t) → ∃ e ∈ o.after, Region.binds .any e = true ∧ e.on = j

theorem okT_spec {ds : List (Option Tmp)} {sz : Nat} (h : okT ops ds sz = true) : OkT ops ds sz := by
  unfold okT at h
  simp only [Bool.and_eq_true, decide_eq_true_eq, List.all_eq_true, List.mem_range] at h
  obtain ⟨⟨hs, hl⟩, h⟩ := h
  have key : ∀ i o, ops[i]? = some o → i < ds.length → ds[i]? = some o.dst ∧ (∀ e ∈ o.after, Region.binds .any e = true → e.on < i) ∧
      (∀ d, o.dst = some d → d < sz ∧ ∀ j, j < ds.length → ds[j]? = some (some d) → j = i) ∧
      (∀ t ∈ o.looksAt ops, ∀ j, j < ds.length → ds[j]? = some (some t) → ∃ e ∈ o.after, Region.binds .any e = true ∧ e.on = j) := by
    intro i o ho hi
    have h1 := h i (by have := Array.getElem?_eq_some_iff.1 ho; exact this.1)
    rw [ho] at h1
    simp only [hi, if_true, Bool.and_eq_true, beq_iff_eq, List.all_eq_true, List.mem_range, Bool.or_eq_true, bne_iff_ne, List.any_eq_true, Array.mem_toList_iff, Bool.not_eq_true', decide_eq_true_eq] at h1
    obtain ⟨⟨⟨a1, a2⟩, a3⟩, a4⟩ := h1
    refine ⟨a1, fun e he hb => ?_, fun d hd => ?_, fun t ht j hj hd => ?_⟩
    · rcases a2 e he with h | h
      · rw [hb] at h; cases h
      · exact h
    · rw [hd] at a3
      simp only [Bool.and_eq_true, decide_eq_true_eq, List.all_eq_true, List.mem_range, Bool.or_eq_true, beq_iff_eq, bne_iff_ne] at a3
      refine ⟨a3.1, fun j hj hdj => ?_⟩
      rcases a3.2 j hj with h | h
      · exact h
      · exact absurd hdj h
    · rcases a4 t ht j hj with h | ⟨e, he, hb⟩
      · exact absurd hd h
      · exact ⟨e, he, hb.1, hb.2⟩
  exact ⟨Region.noSelect_spec hs, hl, fun i o ho hi => (key i o ho hi).1, fun i o ho hi => (key i o ho hi).2.1, fun i o d ho hi hd => ((key i o ho hi).2.2.1 d hd).1,
    fun i o d ho hi hd => ((key i o ho hi).2.2.1 d hd).2, fun i o ho hi => (key i o ho hi).2.2.2⟩
theorem okRs_rest {m : Nat} {late : List Nat} (h : okRs ops m late = true) (i : Nat) (hi : i < ops.size) (hm : m ≤ i) (j : Nat) (hj : j < m) (hl : j ∉ late) : waits ops 8 i j = true := by
  unfold okRs at h
  simp only [Bool.and_eq_true, List.all_eq_true, List.mem_range, Bool.or_eq_true, decide_eq_true_eq, List.contains_iff_mem] at h
  rcases h.1 i hi with h1 | h1
  · omega
  · exact (h1 j hj).resolve_left hl
theorem okRs_late {m : Nat} {late : List Nat} (h : okRs ops m late = true) (p : Nat) (hp : p ∈ late) : p < m ∧ Region.free .any ops (deps ops p) p = true := by
  unfold okRs at h
  simp only [Bool.and_eq_true, List.all_eq_true, decide_eq_true_eq] at h
  exact h.2 p hp

/-- Where a region stands while its first operations come up. -/
structure Inv (ops : Array Oper) (ks : List Kd) (T : Array Value) (df : List Deferred) (w0 : World) (n : Nat) (listed : Array Bool) (a : Act) (w : World) (V : Nat → Value) (L H : Nat → Nat) : Prop where
  size : listed.size = n
  df : a.defers = df
  tmps : a.tmps.size = T.size
  bel : Below w0.heap.size w0 w
  down : ∀ i o, ops[i]? = some o → listed.getD i false = true → ∀ e ∈ o.after, Region.binds .any e = true → listed.getD e.on false = true
  late : ∀ i, ks.length ≤ i → listed.getD i false = false
  fct : ∀ i k, ks[i]? = some k → listed.getD i false = true → k.2.2 (L i) (H i) w (V i)
  iv : ∀ i, i < ks.length → listed.getD i false = true → w0.heap.size ≤ L i ∧ L i ≤ H i ∧ H i ≤ w.heap.size
  val : ∀ i k t, ks[i]? = some k → listed.getD i false = true → k.1 = some t → a.tmps[t]? = some (k.2.1 (L i) (V i))
  ap : ∀ i j, i < ks.length → j < ks.length → i ≠ j → listed.getD i false = true → listed.getD j false = true → H i ≤ L j ∨ H j ≤ L i
  far : ∀ t, (∀ i k, ks[i]? = some k → k.1 = some t → listed.getD i false = false) → a.tmps[t]? = T[t]?

theorem getD_set_same {l : Array Bool} {i : Nat} (h : i < l.size) : (l.setIfInBounds i true).getD i false = true := by simp [h]
theorem getD_set_other {l : Array Bool} {i j : Nat} (h : i ≠ j) : (l.setIfInBounds i true).getD j false = l.getD j false := by
  simp [Array.getElem?_setIfInBounds_ne h]

/-- One more has come up. -/
theorem Inv.step {ks : List Kd} {T : Array Value} {df : List Deferred} {w0 : World} {listed : Array Bool} {a : Act} {w : World} {V : Nat → Value} {L H : Nat → Nat}
    (I : Inv ops ks T df w0 ops.size listed a w V L H) (ok : OkT ops (ks.map (·.1)) T.size) (kp : Kps ks) {i : Nat} {o : Oper} {k : Kd} (ho : ops[i]? = some o) (hk : ks[i]? = some k)
    (hn : listed.getD i false = false) (hall : ∀ e ∈ o.after, Region.binds .any e = true → listed.getD e.on false = true) {u : Value} {w' : World} (hb : Below w.heap.size w w') (hD : k.2.2 w.heap.size w'.heap.size w' u) :
    Inv ops ks T df w0 ops.size (listed.setIfInBounds i true) (a.put o.dst (k.2.1 w.heap.size u)) w' (fun j => if j = i then u else V j) (fun j => if j = i then w.heap.size else L j) (fun j => if j = i then w'.heap.size else H j) := by
  have hi : i < ks.length := (List.getElem?_eq_some_iff.1 hk).1
  have him : i < (ks.map (·.1)).length := by simpa using hi
  have hio : i < listed.size := by rw [I.size]; exact (Array.getElem?_eq_some_iff.1 ho).1
  have hdk : k.1 = o.dst := by
    have := ok.dst i o ho him
    simp [hk] at this
    exact this
  have other : ∀ j, j ≠ i → (listed.setIfInBounds i true).getD j false = listed.getD j false := fun j hj => getD_set_other (Ne.symm hj)
  have szw := hb.size
  have ne_dst : ∀ j k' t, ks[j]? = some k' → k'.1 = some t → j ≠ i → o.dst ≠ some t := fun j k' t hj ht hne hd => by
    have hjl : j < ks.length := (List.getElem?_eq_some_iff.1 hj).1
    exact hne (ok.one i o t ho him hd j (by simpa using hjl) (by simp [hj, ht]))
  have put_ne : ∀ t v, o.dst ≠ some t → (a.put o.dst v).tmps[t]? = a.tmps[t]? := fun t v hne => by
    cases hd : o.dst with
    | none => rfl
    | some d =>
      have : d ≠ t := fun e => hne (by rw [hd, e])
      simp [Act.put, Array.getElem?_setIfInBounds_ne this]
  refine ⟨by simpa using I.size, ?_, ?_, I.bel.trans (hb.mono I.bel.size), fun j oj hj hl e he hbn => ?_, fun j hj => ?_, fun j k' hj hl => ?_, fun j hj hl => ?_, fun j k' t hj hl ht => ?_, fun j1 j2 h1 h2 hne l1 l2 => ?_, fun t ht => ?_⟩
  · cases o.dst <;> exact I.df
  · have := I.tmps
    cases hd : o.dst <;> simpa [Act.put] using this
  · by_cases hei : e.on = i
    · rw [hei]; exact getD_set_same hio
    · rw [other e.on hei]
      by_cases hji : j = i
      · subst hji
        rw [ho] at hj; cases hj
        exact hall e he hbn
      · rw [other j hji] at hl
        exact I.down j oj hj hl e he hbn
  · rw [other j (by omega)]; exact I.late j hj
  · by_cases hji : j = i
    · subst hji
      rw [hk] at hj; cases hj
      simpa using hD
    · rw [other j hji] at hl
      simp only [hji, if_false]
      have hjl : j < ks.length := (List.getElem?_eq_some_iff.1 hj).1
      exact kp.get j k' hj _ _ _ _ _ (I.fct j k' hj hl) (I.iv j hjl hl).2.2 hb
  · by_cases hji : j = i
    · subst hji
      simp only [if_true]
      exact ⟨I.bel.size, szw, Nat.le_refl _⟩
    · rw [other j hji] at hl
      simp only [hji, if_false]
      have := I.iv j hj hl
      exact ⟨this.1, this.2.1, Nat.le_trans this.2.2 szw⟩
  · by_cases hji : j = i
    · subst hji
      rw [hk] at hj; cases hj
      rw [hdk] at ht
      have hlt : t < a.tmps.size := by rw [I.tmps]; exact ok.lt j o t ho him ht
      simp [ht, Act.put, hlt]
    · rw [other j hji] at hl
      simp only [hji, if_false]
      rw [put_ne t _ (ne_dst j k' t hj ht hji)]
      exact I.val j k' t hj hl ht
  · by_cases h1i : j1 = i
    · subst h1i
      have h2i : j2 ≠ j1 := Ne.symm hne
      rw [other j2 h2i] at l2
      simp only [h2i, if_true, if_false]
      exact .inr (I.iv j2 h2 l2).2.2
    · rw [other j1 h1i] at l1
      by_cases h2i : j2 = i
      · subst h2i
        simp only [h1i, if_true, if_false]
        exact .inl (I.iv j1 h1 l1).2.2
      · rw [other j2 h2i] at l2
        simp only [h1i, h2i, if_false]
        exact I.ap j1 j2 h1 h2 hne l1 l2
  · have h1 : o.dst ≠ some t := fun hd => by
      have := ht i k hk (by rw [hdk, hd])
      rw [getD_set_same hio] at this; cases this
    rw [put_ne t _ h1]
    refine I.far t fun j k' hj hd => ?_
    have hji : j ≠ i := fun e => by subst e; rw [hk] at hj; cases hj; exact h1 (by rw [← hdk, hd])
    rw [← other j hji]; exact ht j k' hj hd

theorem Inv.waits {ks : List Kd} {T : Array Value} {df : List Deferred} {w0 : World} {n : Nat} {listed : Array Bool} {a : Act} {w : World} {V : Nat → Value} {L H : Nat → Nat}
    (I : Inv ops ks T df w0 n listed a w V L H) (j : Nat) : ∀ (f i : Nat), waits ops f i j = true → (∀ o, ops[i]? = some o → ∀ e ∈ o.after, Region.binds .any e = true → listed.getD e.on false = true) → listed.getD j false = true
  | 0, _, h, _ => by simp [Proofs.YtofflhhlacdgfaaDoor.waits] at h
  | f + 1, i, h, ha => by
    unfold Proofs.YtofflhhlacdgfaaDoor.waits at h
    cases ho : ops[i]? with
    | none => simp [ho] at h
    | some o =>
      simp only [ho, List.any_eq_true, Array.mem_toList_iff, Bool.and_eq_true, Bool.or_eq_true, beq_iff_eq] at h
      obtain ⟨e, he, hb, h⟩ := h
      have hl := ha o ho e he hb
      rcases h with rfl | h
      · exact hl
      · exact I.waits j f e.on h (fun o' ho' e' he' hb' => I.down e.on o' ho' hl e' he' hb')

/-- What an operation looks at stands in its place already. -/
theorem Inv.looks {ks : List Kd} {T : Array Value} {df : List Deferred} {w0 : World} {listed : Array Bool} {a : Act} {w : World} {V : Nat → Value} {L H : Nat → Nat}
    (I : Inv ops ks T df w0 ops.size listed a w V L H) (ok : OkT ops (ks.map (·.1)) T.size) {i : Nat} {o : Oper} (ho : ops[i]? = some o) (hi : i < ks.length)
    (hr : ∀ e ∈ o.after, Region.binds .any e = true → listed.getD e.on false = true) (t : Nat) (ht : t ∈ o.looksAt ops) : a.tmps[t]? = (fillK V L 0 ks T)[t]? := by
  have him : i < (ks.map (·.1)).length := by simpa using hi
  by_cases h : ∃ (j : Nat) (k : Kd), ks[j]? = some k ∧ k.1 = some t
  · obtain ⟨j, k, hj, hk⟩ := h
    have hjl : j < ks.length := (List.getElem?_eq_some_iff.1 hj).1
    obtain ⟨e, he, hb, hon⟩ := ok.look i o ho him t ht j (by simpa using hjl) (by simp [hj, hk])
    have hl := hr e he hb
    rw [hon] at hl
    obtain ⟨oj, hoj⟩ : ∃ oj, ops[j]? = some oj := ⟨_, Array.getElem?_eq_some_iff.2 ⟨Nat.lt_of_lt_of_le (by simpa using hjl) ok.len, rfl⟩⟩
    have hdj : oj.dst = some t := by
      have := ok.dst j oj hoj (by simpa using hjl)
      simp [hj, hk] at this
      exact this.symm
    rw [I.val j k t hj hl hk, fillK_at V L t ks 0 j k T hj hk (ok.lt j oj t hoj (by simpa using hjl) hdj) (fun j' k' h1 h2 => by
      have hl' : j' < ks.length := (List.getElem?_eq_some_iff.1 h1).1
      exact ok.one j oj t hoj (by simpa using hjl) hdj j' (by simpa using hl') (by simp [h1, h2]))]
    simp
  · rw [I.far t (fun j k hj hk => absurd ⟨j, k, hj, hk⟩ h), fillK_far V L t ks 0 T (fun k hk hd => by
      obtain ⟨j, hj⟩ := List.mem_iff_getElem?.1 hk
      exact h ⟨j, k, hj, hd⟩)]

theorem Inv.done {ks : List Kd} {T : Array Value} {df : List Deferred} {w0 : World} {n : Nat} {listed : Array Bool} {a : Act} {w : World} {V : Nat → Value} {L H : Nat → Nat}
    (I : Inv ops ks T df w0 n listed a w V L H) (ok : OkT ops (ks.map (·.1)) T.size) (hall : ∀ i, i < ks.length → listed.getD i false = true) : a = ⟨fillK V L 0 ks T, df⟩ := by
  have : a.tmps = fillK V L 0 ks T := by
    apply Array.ext_getElem?
    intro t
    by_cases h : ∃ (j : Nat) (k : Kd), ks[j]? = some k ∧ k.1 = some t
    · obtain ⟨j, k, hj, hk⟩ := h
      have hjl : j < ks.length := (List.getElem?_eq_some_iff.1 hj).1
      obtain ⟨oj, hoj⟩ : ∃ oj, ops[j]? = some oj := ⟨_, Array.getElem?_eq_some_iff.2 ⟨Nat.lt_of_lt_of_le (by simpa using hjl) ok.len, rfl⟩⟩
      have hdj : oj.dst = some t := by
        have := ok.dst j oj hoj (by simpa using hjl)
        simp [hj, hk] at this
        exact this.symm
      rw [I.val j k t hj (hall j hjl) hk, fillK_at V L t ks 0 j k T hj hk (ok.lt j oj t hoj (by simpa using hjl) hdj) (fun j' k' h1 h2 => by
        have hl' : j' < ks.length := (List.getElem?_eq_some_iff.1 h1).1
        exact ok.one j oj t hoj (by simpa using hjl) hdj j' (by simpa using hl') (by simp [h1, h2]))]
      simp
    · rw [I.far t (fun j k hj hk => absurd ⟨j, k, hj, hk⟩ h), fillK_far V L t ks 0 T (fun k hk hd => by
        obtain ⟨j, hj⟩ := List.mem_iff_getElem?.1 hk
        exact h ⟨j, k, hj, hd⟩)]
  cases a
  simp only [Act.mk.injEq]
  exact ⟨this, I.df⟩

/-- How many of the first have come up. -/
def cnt (listed : Array Bool) (m : Nat) : Nat := ((List.range m).filter (fun i => listed.getD i false)).length
theorem cnt_succ (listed : Array Bool) (m : Nat) : cnt listed (m + 1) = cnt listed m + if listed.getD m false = true then 1 else 0 := by
  unfold cnt
  rw [List.range_succ, List.filter_append, List.length_append]
  congr 1
  simp only [List.filter_cons, List.filter_nil]
  split <;> simp
theorem cnt_le (listed : Array Bool) : ∀ m, cnt listed m ≤ m
  | 0 => Nat.le_refl _
  | m + 1 => by rw [cnt_succ]; have := cnt_le listed m; split <;> omega
theorem cnt_all (listed : Array Bool) : ∀ m, cnt listed m = m → ∀ i, i < m → listed.getD i false = true
  | 0, _, i, hi => by omega
  | m + 1, h, i, hi => by
    rw [cnt_succ] at h
    have := cnt_le listed m
    split at h
    · rename_i hm
      by_cases hi' : i = m
      · subst hi'; exact hm
      · exact cnt_all listed m (by omega) i (by omega)
    · omega
theorem cnt_of_all (listed : Array Bool) : ∀ m, (∀ i, i < m → listed.getD i false = true) → cnt listed m = m
  | 0, _ => rfl
  | m + 1, h => by rw [cnt_succ, cnt_of_all listed m (fun i hi => h i (by omega)), if_pos (h m (by omega))]
theorem cnt_set (listed : Array Bool) (i : Nat) (hi : i < listed.size) (hn : listed.getD i false = false) : ∀ m, cnt (listed.setIfInBounds i true) m = cnt listed m + if i < m then 1 else 0
  | 0 => rfl
  | m + 1 => by
    rw [cnt_succ, cnt_succ, cnt_set listed i hi hn m]
    by_cases h : i = m
    · subst h
      rw [getD_set_same hi, hn]
      simp
    · rw [getD_set_other h]
      have : (i < m + 1) = (i < m) := by apply propext; constructor <;> intro <;> omega
      simp only [this]; omega

/-- How a region is marked once the first have come up. -/
def ends (n m : Nat) : Array Bool := (List.replicate m true ++ List.replicate (n - m) false).toArray

theorem tame_go {ks : List Kd} {T : Array Value} {df : List Deferred} {w0 : World} (late : List Nat) (ok : OkT ops (ks.map (·.1)) T.size) (okr : okRs ops ks.length late = true) (kp : Kps ks)
    (hQ : late ≠ [] → ∀ c a d v w, Q (.panic c) (Act.put a d v) w → Q (.panic c) a w)
    (hlt : ∀ V L i, i ∈ late → ∃ o d c, ops[i]? = some o ∧ ks[i]? = some (kc d c) ∧ Yields P ops o c ⟨fillK V L 0 ks T, []⟩)
    (hob : ∀ V L H w, Below w0.heap.size w0 w → Obs P ops ks V L H (fillK V L 0 ks T) w ops.toList ks)
    (hfin : ∀ V L H w, Below w0.heap.size w0 w → Fct V L H w 0 ks → (∀ i, i < ks.length → w0.heap.size ≤ L i ∧ L i ≤ H i ∧ H i ≤ w.heap.size) →
      (∀ i j, i < ks.length → j < ks.length → i ≠ j → H i ≤ L j ∨ H j ≤ L i) → wpAny P .any ops Q (ops.size - ks.length) (ends ops.size ks.length) ⟨fillK V L 0 ks T, df⟩ w) :
    ∀ (r : Nat) (listed : Array Bool) (a : Act) (w : World) (V : Nat → Value) (L H : Nat → Nat), Inv ops ks T df w0 ops.size listed a w V L H → cnt listed ks.length + r = ks.length →
      wpAny P .any ops Q (ops.size - ks.length + r) listed a w
  | 0, listed, a, w, V, L, H, I, hc => by
    have hall := cnt_all listed ks.length (by omega)
    have ha := I.done ok hall
    subst ha
    have hlen : ks.length ≤ ops.size := by simpa using ok.len
    have hl : listed = ends ops.size ks.length := by
      apply Array.ext
      · rw [I.size]; simp [ends]; omega
      · intro i h1 h2
        by_cases hi : i < ks.length
        · have := hall i hi
          simp [h1] at this
          rw [this]
          simp [ends, hi]
        · have := I.late i (by omega)
          simp [h1] at this
          rw [this]
          simp [ends, List.getElem_append, hi]
    rw [hl]
    exact hfin V L H w I.bel (Fct.of ks 0 (fun j k hj => by
      have hjl : j < ks.length := (List.getElem?_eq_some_iff.1 hj).1
      simpa using I.fct j k hj (hall j hjl))) (fun i hi => I.iv i hi (hall i hi)) (fun i j hi hj hne => I.ap i j hi hj hne (hall i hi) (hall j hj))
  | r + 1, listed, a, w, V, L, H, I, hc => by
    have hlen : ks.length ≤ ops.size := by simpa using ok.len
    have same : ∀ {i : Nat} {o : Oper}, ops[i]? = some o → i < ks.length → (∀ e ∈ o.after, Region.binds .any e = true → listed.getD e.on false = true) →
        execOp a.eval o = execOp (Act.eval ⟨fillK V L 0 ks T, []⟩) o ∧ Region.wanted o (yielded ops a.tmps) = Region.wanted o (yielded ops (fillK V L 0 ks T)) := by
      intro i o ho hi hall
      have hlook := I.looks ok ho hi hall
      refine ⟨execOp_congr o (fun cs b => ok.sel i o cs b ho) fun x hx => ?_, ?_⟩
      · cases x with
        | tmp t =>
          have := hlook t (List.mem_append_left _ (List.mem_filterMap.2 ⟨.tmp t, by simpa using hx, rfl⟩))
          simp only [Act.eval, Array.getD_eq_getD_getElem?, this]
        | const => rfl
        | global => rfl
        | func => rfl
      · unfold Region.wanted
        cases hg : o.guard with
        | none => rfl
        | some p =>
          obtain ⟨j, want⟩ := p
          simp only
          congr 1
          unfold yielded
          cases hj : (ops[j]?).bind (·.dst) with
          | none => rfl
          | some d =>
            have := hlook d (by
              unfold Oper.looksAt
              rw [hg]
              exact List.mem_append_right _ (by simp [hj]))
            simp only [Option.bind_some, this]
    by_cases hp : ∃ p, p ∈ late ∧ p ∈ Region.ready .any ops listed
    · -- a late one that may come up is taken first
      obtain ⟨p, hpl, hpr⟩ := hp
      obtain ⟨o, d, c, ho, hk, hy⟩ := hlt V L p hpl
      obtain ⟨hpm, hpf⟩ := okRs_late okr p hpl
      obtain ⟨hun, o', ho', hall⟩ := mem_ready.1 hpr
      rw [ho] at ho'
      cases ho'
      have hio : p < ops.size := (Array.getElem?_eq_some_iff.1 ho).1
      have hn : listed.getD p false = false := by
        have hs : p < listed.size := by rw [I.size]; exact hio
        simp [hs] at hun ⊢; exact hun
      obtain ⟨e1, e2⟩ := same ho hpm hall
      refine wpAny_first (v := c) ho ok.sel (fun c' a' w' h => hQ (by intro h0; rw [h0] at hpl; cases hpl) c' a' _ _ w' h) _ listed a w (fun j oj hj hne hun' hno => Region.free_spec ho hpf j oj hj hne (deps_of ho (Array.getElem?_eq_some_iff.1 hj).1 hall (by
        have hs : j < listed.size := by rw [I.size]; exact (Array.getElem?_eq_some_iff.1 hj).1
        simp [hs] at hun' ⊢; exact hun')) hno) hpr (hy.of_same e1 e2) ?_
      refine tame_go late ok okr kp hQ hlt hob hfin r _ _ _ _ _ _ (I.step (u := undef) ok kp ho hk hn hall (Below.refl _ _) trivial) ?_
      rw [cnt_set listed p (by rw [I.size]; exact hio) hn, if_pos hpm]
      omega
    refine ⟨fun h0 => ?_, fun i hir => ?_⟩
    · -- the least that has not come up may come up
      exfalso
      have : ¬ ∀ i, i < ks.length → listed.getD i false = true := fun h => by have := cnt_of_all listed _ h; omega
      have least : ∀ n, n ≤ ks.length → ∀ i, i < n → listed.getD i false = true := by
        intro n
        induction n with
        | zero => intro _ i hi; omega
        | succ n ih =>
          intro hn i hi
          by_cases hin : i = n
          · subst hin
            cases hx : listed.getD i false with
            | true => rfl
            | false =>
              exfalso
              obtain ⟨o, ho⟩ : ∃ o, ops[i]? = some o := ⟨_, Array.getElem?_eq_some_iff.2 ⟨Nat.lt_of_lt_of_le hn hlen, rfl⟩⟩
              have hm : i ∈ Region.ready .any ops listed := by
                refine mem_ready.2 ⟨?_, o, ho, fun e he hb => ?_⟩
                · have hs : i < listed.size := by rw [I.size]; omega
                  simp [hs] at hx ⊢; exact hx
                · exact ih (by omega) e.on (ok.back i o ho (by simp; omega) e he hb)
              rw [h0] at hm; cases hm
          · exact ih (by omega) i (by omega)
      exact this (least _ (Nat.le_refl _))
    · obtain ⟨hun, o, ho, hall⟩ := mem_ready.1 hir
      have hio : i < ops.size := (Array.getElem?_eq_some_iff.1 ho).1
      have hn : listed.getD i false = false := by
        have hs : i < listed.size := by rw [I.size]; exact hio
        simp [hs] at hun ⊢; exact hun
      have hi : i < ks.length := by
        rcases Nat.lt_or_ge i ks.length with h | h
        · exact h
        · exfalso
          have early : ∀ j, j < ks.length → j ∉ late → listed.getD j false = true := fun j hj hl => I.waits j 8 i (okRs_rest okr i hio h j hj hl) (fun o' ho' => by rw [ho] at ho'; cases ho'; exact hall)
          have all : ∀ n, n ≤ ks.length → ∀ j, j < n → listed.getD j false = true := by
            intro n
            induction n with
            | zero => intro _ j hj; omega
            | succ n ih =>
              intro hn j hj
              by_cases hjn : j = n
              · subst hjn
                cases hx : listed.getD j false with
                | true => rfl
                | false =>
                  exfalso
                  have hjl : j ∈ late := by
                    cases Classical.em (j ∈ late) with
                    | inl h => exact h
                    | inr h => rw [early j (by omega) h] at hx; cases hx
                  obtain ⟨oj, hoj⟩ : ∃ o, ops[j]? = some o := ⟨_, Array.getElem?_eq_some_iff.2 ⟨by omega, rfl⟩⟩
                  refine hp ⟨j, hjl, mem_ready.2 ⟨?_, oj, hoj, fun e he hb => ?_⟩⟩
                  · have hs : j < listed.size := by rw [I.size]; omega
                    simp [hs] at hx ⊢; exact hx
                  · exact ih (by omega) e.on (ok.back j oj hoj (by simp; omega) e he hb)
              · exact ih (by omega) j (by omega)
          have := cnt_of_all listed ks.length (all _ (Nat.le_refl _))
          omega
      obtain ⟨k, hk⟩ : ∃ k, ks[i]? = some k := ⟨_, List.getElem?_eq_some_iff.2 ⟨hi, rfl⟩⟩
      obtain ⟨hex, hwa⟩ := same ho hi hall
      have hO := (hob V L H w I.bel).get i o k (by simpa using ho) hk (fun e he hb k' hk' => I.fct e.on k' hk' (hall e he hb))
      have go : ∀ v w', Res k w v w' → wpAny P .any ops Q (ops.size - ks.length + r) (listed.setIfInBounds i true) (a.put o.dst v) w' := by
        rintro v w' ⟨u, rfl, hb, hD⟩
        refine tame_go late ok okr kp hQ hlt hob hfin r _ _ _ _ _ _ (I.step ok kp ho hk hn hall hb hD) ?_
        rw [cnt_set listed i (by rw [I.size]; exact hio) hn, if_pos hi]
        omega
      unfold Ob at hO
      unfold wpOp
      simp only [ho, hwa]
      split
      · rename_i hw
        rw [if_pos hw] at hO
        exact .inl (hO.wp hex go)
      · rename_i hw
        rw [if_neg hw] at hO
        exact go _ _ hO

theorem tame0 (ks : List Kd) (m : Nat) (hmk : ks.length = m) {T : Array Value} {df : List Deferred} {id : Nat} {w : World} (hm : P.follows .mixedOrders = true) (late : List Nat) (ok : (okT ops (ks.map (·.1)) T.size && okRs ops ks.length late) = true) (kp : Kps ks)
    (hQ : late ≠ [] → ∀ c a d v w, Q (.panic c) (Act.put a d v) w → Q (.panic c) a w)
    (hlt : ∀ V L i, i ∈ late → ∃ o d c, ops[i]? = some o ∧ ks[i]? = some (kc d c) ∧ Yields P ops o c ⟨fillK V L 0 ks T, []⟩)
    (r : Nat) (hr : ops.size - ks.length = r) (hob : ∀ V L H w', Below w.heap.size w w' → Obs P ops ks V L H (fillK V L 0 ks T) w' ops.toList ks)
    (hfin : ∀ V L H w', Below w.heap.size w w' → Fct V L H w' 0 ks → (∀ i, i < m → w.heap.size ≤ L i ∧ L i ≤ H i ∧ H i ≤ w'.heap.size) →
      (∀ i j, i < m → j < m → i ≠ j → H i ≤ L j ∨ H j ≤ L i) → wpAny P .any ops Q r (ends ops.size ks.length) ⟨fillK V L 0 ks T, df⟩ w') :
    (Code.region id ops true).wp P Q ⟨T, df⟩ w := by
  subst hr hmk
  rw [Bool.and_eq_true] at ok
  have hs := okT_spec ok.1
  have hlen : ks.length ≤ ops.size := by simpa using hs.len
  have hd : ∀ {w' : World}, Below w.drew.heap.size w.drew w' → Below w.heap.size w w' := fun h => ⟨h.os, h.tape, h.output, h.size, h.block⟩
  refine wp_region_any hm ?_
  have := tame_go (P := P) (Q := Q) (df := df) (w0 := w.drew) late hs ok.2 kp hQ hlt (fun V L H w' h => hob V L H w' (hd h)) (fun V L H w' h => hfin V L H w' (hd h)) ks.length (Array.replicate ops.size false) ⟨T, df⟩ w.drew (fun _ => undef) (fun _ => 0) (fun _ => 0)
    ⟨by simp, rfl, rfl, Below.refl _ _, fun i _ _ h => by exfalso; by_cases h' : i < ops.size <;> simp [h'] at h, fun i _ => by by_cases h : i < ops.size <;> simp [h], fun i k _ h => by exfalso; by_cases h' : i < ops.size <;> simp [h'] at h,
     fun i _ h => by exfalso; by_cases h' : i < ops.size <;> simp [h'] at h, fun i k t _ h => by exfalso; by_cases h' : i < ops.size <;> simp [h'] at h,
     fun i j _ _ _ h => by exfalso; by_cases h' : i < ops.size <;> simp [h'] at h, fun t _ => rfl⟩
    (by
      have : cnt (Array.replicate ops.size false) ks.length = 0 := by
        unfold cnt
        rw [List.length_eq_zero_iff, List.filter_eq_nil_iff]
        intro i _ h
        by_cases h' : i < ops.size <;> simp [h'] at h
      omega)
  rw [Nat.sub_add_cancel hlen] at this
  exact this

/-- THE LAW: each operation is walked once; then what is left waits for all of them. -/
theorem tameG {l : List Oper} (ks : List Kd) (m : Nat) (hmk : ks.length = m) {T : Array Value} {df : List Deferred} {id : Nat} {w : World} (hm : P.follows .mixedOrders = true) (ok : (okT l.toArray (ks.map (·.1)) T.size && okRs l.toArray ks.length []) = true) (kp : Kps ks)
    (r : Nat) (hr : l.toArray.size - ks.length = r) (hob : ∀ V L H w', Below w.heap.size w w' → Obs P l.toArray ks V L H (fillK V L 0 ks T) w' l ks)
    (hfin : ∀ V L H w', Below w.heap.size w w' → Fct V L H w' 0 ks → (∀ i, i < m → w.heap.size ≤ L i ∧ L i ≤ H i ∧ H i ≤ w'.heap.size) →
      (∀ i j, i < m → j < m → i ≠ j → H i ≤ L j ∨ H j ≤ L i) → wpAny P .any l.toArray Q r (ends l.toArray.size ks.length) ⟨fillK V L 0 ks T, df⟩ w') :
    (Code.region id l.toArray true).wp P Q ⟨T, df⟩ w :=
  tame0 ks m hmk hm [] ok kp (fun h => absurd rfl h) (fun _ _ _ h => by cases h) r hr hob hfin

/-- The same, where some values may still come up behind the first store. -/
theorem tameL {l : List Oper} (ks : List Kd) (m : Nat) (hmk : ks.length = m) {T : Array Value} {df : List Deferred} {id : Nat} {w : World} (hm : P.follows .mixedOrders = true) (late : List Nat) (ok : (okT l.toArray (ks.map (·.1)) T.size && okRs l.toArray ks.length late) = true) (kp : Kps ks)
    (hQ : late ≠ [] → ∀ c a d v w, Q (.panic c) (Act.put a d v) w → Q (.panic c) a w)
    (hlt : ∀ V L i, i ∈ late → ∃ o d c, l.toArray[i]? = some o ∧ ks[i]? = some (kc d c) ∧ Yields P l.toArray o c ⟨fillK V L 0 ks T, []⟩)
    (r : Nat) (hr : l.toArray.size - ks.length = r) (hob : ∀ V L H w', Below w.heap.size w w' → Obs P l.toArray ks V L H (fillK V L 0 ks T) w' l ks)
    (hfin : ∀ V L H w', Below w.heap.size w w' → Fct V L H w' 0 ks → (∀ i, i < m → w.heap.size ≤ L i ∧ L i ≤ H i ∧ H i ≤ w'.heap.size) →
      (∀ i j, i < m → j < m → i ≠ j → H i ≤ L j ∨ H j ≤ L i) → wpAny P .any l.toArray Q r (ends l.toArray.size ks.length) ⟨fillK V L 0 ks T, df⟩ w') :
    (Code.region id l.toArray true).wp P Q ⟨T, df⟩ w :=
  tame0 ks m hmk hm late ok kp hQ hlt r hr hob hfin

/-- As the law asks it of a region without guards. -/
def Tbs (P : Program) (all : List Kd) (V : Nat → Value) (L H : Nat → Nat) (T : Array Value) (w : World) : List Oper → List Kd → Prop
  | o :: os, k :: ks => Dty (Aft all V L H w o) (TOb P (Act.eval ⟨T, []⟩) o k w) ∧ Tbs P all V L H T w os ks
  | _, _ => True
theorem Tbs.obs {all : List Kd} {V : Nat → Value} {L H : Nat → Nat} {T : Array Value} {w : World} : ∀ (os : List Oper) (ks : List Kd), os.all (fun o => o.guard.isNone) = true → Tbs P all V L H T w os ks → Obs P ops all V L H T w os ks
  | [], _, _, _ => trivial
  | _ :: _, [], _, _ => trivial
  | o :: os, k :: ks, hg, h => by
    simp only [List.all_cons, Bool.and_eq_true, Option.isNone_iff_eq_none] at hg
    refine ⟨⟨fun a => ?_⟩, Tbs.obs os ks (by simpa using hg.2) h.2⟩
    unfold Ob
    rw [if_pos (by simp [Region.wanted, hg.1])]
    exact h.1.out a
theorem tame {l : List Oper} (ks : List Kd) (m : Nat) (hmk : ks.length = m) {T : Array Value} {df : List Deferred} {id : Nat} {w : World} (hm : P.follows .mixedOrders = true) (ok : (okT l.toArray (ks.map (·.1)) T.size && okRs l.toArray ks.length [] && l.all (fun o => o.guard.isNone)) = true) (kp : Kps ks)
    (r : Nat) (hr : l.toArray.size - ks.length = r) (hob : ∀ V L H w', Below w.heap.size w w' → Tbs P ks V L H (fillK V L 0 ks T) w' l ks)
    (hfin : ∀ V L H w', Below w.heap.size w w' → Fct V L H w' 0 ks → (∀ i, i < m → w.heap.size ≤ L i ∧ L i ≤ H i ∧ H i ≤ w'.heap.size) →
      (∀ i j, i < m → j < m → i ≠ j → H i ≤ L j ∨ H j ≤ L i) → wpAny P .any l.toArray Q r (ends l.toArray.size ks.length) ⟨fillK V L 0 ks T, df⟩ w') :
    (Code.region id l.toArray true).wp P Q ⟨T, df⟩ w := by
  rw [Bool.and_eq_true] at ok
  exact tameG ks m hmk hm ok.1 kp r hr (fun V L H w' b => Tbs.obs l ks ok.2 (hob V L H w' b)) hfin

/-! Duties, by kind: a value that hangs on no memory; a load of a row; a call; a new block. Guarded: one that is wanted, one that is not. -/
section
variable {ev : Operand → Value} {T : Array Value} {o : Oper} {k : Kd} {d : Nat} {c : Value} {w : World} {X : Prop}
theorem tp (h : (execOp ev o).run P w = .ok (.value c) w) : Dty X (TOb P ev o (kc d c) w) := ⟨fun _ => by
  refine ⟨?_⟩
  unfold TObR
  rw [h]
  exact ⟨undef, rfl, Below.refl _ _, trivial⟩⟩
/-- What a load reads, and where. -/
def loadsAt (ev : Operand → Value) (o : Oper) : Option (TypeId × Value) :=
  match o.op with
  | .load ty x => some (ty, ev x)
  | _ => none
theorem run_loads {ty : TypeId} {b off : Nat} {cs : List Value} {dd : TypeDesc} (hc : w.rangeAt b off cs) (hi : (P.info? ty).map (·.size) = some cs.length) (hu : P.underlying ty = some dd) (hd : dd.isRow = true)
    (hx : loadsAt ev o = some (ty, .pointer (some ⟨b, off, none⟩))) : (execOp ev o).run P w = .ok (.value (.agg cs.toArray)) w := by
  unfold loadsAt at hx
  split at hx
  · rename_i ty' x ho
    injection hx with hx
    injection hx with h1 h2
    subst h1
    unfold execOp
    simp only [ho, h2, Instr.loadAt, Instr.sureAddr, Sem.run_bind, Sem.run_pure, Result.andThen_ok, run_loadVar_mid w b off ty' cs dd hc hu hd hi]
  · cases hx
theorem tl {ty : TypeId} {b off n e : Nat} {cs : List Value} (hc : w.rangeAt b off cs) (hi : (P.info? ty).map (·.size) = some cs.length) (hu : P.underlying ty = some (.array n e))
    (hx : loadsAt ev o = some (ty, .pointer (some ⟨b, off, none⟩))) : Dty X (TOb P ev o (kc d (.agg cs.toArray)) w) := tp (run_loads hc hi hu rfl hx)
theorem ts {ty : TypeId} {b off : Nat} {cs : List Value} {fs : Array Field} (hc : w.rangeAt b off cs) (hi : (P.info? ty).map (·.size) = some cs.length) (hu : P.underlying ty = some (.struct fs))
    (hx : loadsAt ev o = some (ty, .pointer (some ⟨b, off, none⟩))) : Dty X (TOb P ev o (kc d (.agg cs.toArray)) w) := tp (run_loads hc hi hu rfl hx)
theorem tr {f : FuncId} {args : Array Value} (hc : X → Calls P f args w fun e w' => ∃ v, e = .returned v ∧ Res k w v w') (h : (execOp ev o).run P w = .ok (.enter f args) w) : Dty X (TOb P ev o k w) := ⟨fun x => by
  refine ⟨?_⟩
  unfold TObR
  rw [h]
  refine Calls.mono (hc x) ?_
  rintro e w' ⟨v, rfl, hr⟩
  exact hr⟩
theorem tc {f : FuncId} {args : Array Value} (hc : Calls P f args w fun e w' => e = .returned c ∧ Below w.heap.size w w') (h : (execOp ev o).run P w = .ok (.enter f args) w) : Dty X (TOb P ev o (kc d c) w) :=
  tr (fun _ => hc.mono (by rintro e w' ⟨rfl, hb⟩; exact ⟨c, rfl, undef, rfl, hb, trivial⟩)) h
theorem ta {t : TypeId} {cs : List Value} (h : (execOp ev o).run P w = .ok (.value (.pointer (some ⟨w.heap.size, 0, none⟩))) (w.alloc (.cells cs.toArray t))) : Dty X (TOb P ev o (ka d t cs) w) := ⟨fun _ => by
  refine ⟨?_⟩
  unfold TObR
  rw [h]
  exact ⟨undef, rfl, (Below.refl _ _).alloc (Nat.le_refl _) _, Arr.new w cs t, by simp⟩⟩
theorem ty {S : World → Prop} (h : YieldsIf P ops S o c ⟨T, []⟩) (hg : o.guard = none) (hS : S w) : Dty X (TOb P (Act.eval ⟨T, []⟩) o (kc d c) w) := by
  rcases h with ⟨_, h⟩ | ⟨hw, _⟩
  · exact tp (h w hS)
  · simp [Region.wanted, hg] at hw
theorem og (h : Dty X (TOb P (Act.eval ⟨T, []⟩) o k w)) (hw : Region.wanted o (yielded ops T) = true) : Dty X (Ob P ops T o k w) := ⟨fun x => by
  unfold Ob
  rw [if_pos hw]
  exact h.out x⟩
theorem ou (hw : Region.wanted o (yielded ops T) = false) : Dty X (Ob P ops T o (kc d undef) w) := ⟨fun _ => by
  unfold Ob
  rw [if_neg (by simp [hw])]
  exact ⟨undef, rfl, Below.refl _ _, trivial⟩⟩
end

/-- A value that comes up alone. -/
theorem st_set {listed : Array Bool} {fuel i : Nat} {o : Oper} {a : Act} {w : World} {v : Value} (hr : Region.ready .any ops listed = [i]) (ho : ops[i]? = some o) (hg : o.guard = none) (hx : (execOp a.eval o).run P w = .ok (.value v) w)
    (h : wpAny P .any ops Q fuel (listed.setIfInBounds i true) (a.put o.dst v) w) : wpAny P .any ops Q (fuel + 1) listed a w := by
  refine ⟨fun h0 => absurd (hr.symm.trans h0) (by simp), fun j hj => ?_⟩
  rw [hr] at hj
  rcases List.mem_singleton.1 hj with rfl
  unfold wpOp
  simp only [ho]
  rw [if_pos (by simp [Region.wanted, hg])]
  refine .inl ?_
  unfold Oper.wp
  rw [hx]
  exact h
/-- A store of a whole row that comes up alone. -/
theorem st_row {listed : Array Bool} {fuel i : Nat} {o : Oper} {a : Act} {w : World} (hr : Region.ready .any ops listed = [i]) (ho : ops[i]? = some o) (hg : o.guard = none) {ty : TypeId} {x y : Operand} (hop : o.op = .store ty x y) (hd : o.dst = none)
    {b : Nat} {t : TypeId} {old cells : List Value} (hA : Arr w b t old) (hx : a.eval x = .pointer (some ⟨b, 0, none⟩)) (hy : a.eval y = .agg cells.toArray) (hl : cells.length = old.length)
    (hi : (P.info? ty).map (·.size) = some cells.toArray.size) (h1 : ∀ v ∈ cells, v.oneCell' = true) (h : wpAny P .any ops Q fuel (listed.setIfInBounds i true) a (w.setCells b 0 cells)) :
    wpAny P .any ops Q (fuel + 1) listed a w := by
  refine ⟨fun h0 => absurd (hr.symm.trans h0) (by simp), fun j hj => ?_⟩
  rw [hr] at hj
  rcases List.mem_singleton.1 hj with rfl
  unfold wpOp
  simp only [ho]
  rw [if_pos (by simp [Region.wanted, hg])]
  refine .inl (wp_store_mid ty x y hop b 0 cells.toArray hx hy (fun k hk => ?_) hi (all_oneCell_toArray h1) ?_)
  · have hk' : k < old.length := by rw [← hl]; simpa using hk
    simp only [Nat.zero_add]
    exact ⟨by rw [hA.cell k]; simp [hk'], hA.frozen k⟩
  · rw [hd]; simpa [Act.put] using h
end
end Go.Proofs.YtofflhhlacdgfaaDoor

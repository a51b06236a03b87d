/-
  What is proved here: the needs that a bundle lacks, as plain data; append onto a row of needs, and where the new row lies; what the specification's Lacks answers; the law on a region that draws its order (text Tm), where one operation besides may turn a block that was there: what the others leave is kept while that block turns, and what the one wants is kept by the others; no program is spoken of, no condition; bits of bytes; a store, a call or a value that comes up alone in a region that draws its order; no program is spoken of.
-/
import Derived.Test.YtofflhhlacdgfaaDoorJM19
import Derived.Test.YtofflhhlacdgfaaDoorJM20
import Derived.Maps.AppendAt
import Derived.Test.YtofflhhlacdgfaaDoorTm
import Derived.Test.YtofflhhlacdgfaaDoorJM1
namespace Go.Proofs.YtofflhhlacdgfaaDoor
open Go.RowKit
set_option maxRecDepth 100000
set_option maxHeartbeats 4000000
set_option linter.unusedVariables false

/-- The needs that the parts do not meet. -/
def lkN (ps : List PartM) (ns : List NeedM) : List NeedM := ns.filter fun q => !decide (metN ps q)
def lkB (B : BunM) : List NeedM := if bOk B = true then lkN B.ps B.ns else []
theorem lkN_snoc (ps : List PartM) (ns : List NeedM) (q : NeedM) : lkN ps (ns ++ [q]) = lkN ps ns ++ (if metN ps q then [] else [q]) := by
  unfold lkN
  rw [List.filter_append]
  by_cases h : metN ps q
  · have e : (!decide (metN ps q)) = false := by rw [decide_eq_true h]; rfl
    rw [if_pos h]
    simp only [List.filter_cons, List.filter_nil, e]
    rfl
  · have e : (!decide (metN ps q)) = true := by rw [decide_eq_false h]; rfl
    rw [if_neg h]
    simp only [List.filter_cons, List.filter_nil, e]
    rfl
theorem lkN_len (ps : List PartM) (ns : List NeedM) : (lkN ps ns).length ≤ ns.length := List.length_filter_le _ _
theorem lkB_len (B : BunM) : (lkB B).length ≤ 8 := by
  unfold lkB
  split
  · next h =>
    have := lkN_len B.ps B.ns
    have := ((bOk_iff B).1 h).1
    omega
  · simp
theorem mts_one (ps : List PartM) (q : NeedM) : mts ps [q] = decide (metN ps q) := by
  unfold mts
  congr 1
  apply propext
  constructor
  · intro h; simpa using h 0 (by simp)
  · intro h i hi
    have : i = 0 := by simpa using hi
    subst this
    simpa using h
theorem ns_one {W : World} {g : Nat} {q : NeedM} (A : Arr W g 41 [.int .i64 q.o, .int .i64 q.f, .int .i64 q.t, .int .i64 q.k]) : Ns W (some ⟨g, 0, none⟩) 1 1 [q] :=
  ⟨(fun h => by cases h), rfl, Nat.le_refl _, .inr ⟨g, 0, rfl, A.lt, fun i hi => by
    have : i = 0 := by omega
    subst this
    exact ⟨A.cell 0, A.cell 1, A.cell 2, A.cell 3⟩⟩⟩
theorem ns_snoc (ns : List NeedM) (k : Nat) (h : k < ns.length) : ns.take (k + 1) = ns.take k ++ [ns.getD k nz] := by
  rw [List.take_succ_eq_append_getElem h]; simp [h]
theorem FL_oneN : ∀ (xs : List Rc), ∀ u ∈ FL xs, u.oneCell' = true
  | [], u, h => by cases h
  | r :: t, u, h => by
    simp only [FL, List.mem_cons] at h
    rcases h with rfl | rfl | rfl | rfl | h
    · rfl
    · rfl
    · rfl
    · rfl
    · exact FL_oneN t u h
/-- append of one need onto a row of needs. -/
theorem run_app_nd (w : World) (base : Nat) (v : Value) (n : Nat) (xs : List Rc) (hown : w.ownsRow base 41 4 v n (FL xs)) (g c : Nat) (q : NeedM)
    (A : Arr w g 41 [.int .i64 q.o, .int .i64 q.f, .int .i64 q.t, .int .i64 q.k]) (hn : n ≤ 1048576) (hbase : base ≤ w.heap.size) :
    ∃ v' w', (Builtin.append_ #[24, 24] 24 #[v, .slice (some ⟨g, 0, none⟩) 1 c]).run Tryd.prog w = .ok v' w' ∧ w'.ownsRow base 41 4 v' (n + 1) (FL (xs ++ [nrc q])) ∧ w.grownBy w' v.ownBlock ∧ (v'.ownBlock = v.ownBlock ∨ v'.ownBlock = some w.heap.size) := by
  obtain ⟨i0, hi, hz0, hz1, hz2⟩ := info_parts (show (Tryd.prog.info? 41).map (fun i => (i.zero, i.size, i.bytes)) = some (some (rcV 0 0 0 0), 4, 32) by kernel_rfl)
  obtain ⟨v', w', h1, h2, h3, _, h5⟩ := run_append_own_at (P := Tryd.prog) w base 24 24 41 i0 (rcV 0 0 0 0) 4 32 Tryd.underlying24 hi hz0 hz1 hz2 rfl (by decide) v n (FL xs) hown ⟨g, 0, none⟩ 1 c (FL [nrc q]) rfl
    (fun j u hj => by
      rw [Addr.add_lit]
      have hj4 : j < 4 := by
        have := (List.getElem?_eq_some_iff.1 hj).1
        simpa [FL] using this
      rw [show (0 : Nat) + j = j by omega, A.cell j]
      exact hj)
    (FL_oneN _) (by unfold maxLen; omega) (by omega) hbase
  exact ⟨v', w', h1, by rw [FL_app]; exact h2, h3, h5⟩
theorem wpl_app_nd {w : World} {ops : Array Oper} {rest : List Oper} {o : Oper} {a : Act} {Q : Exit → Act → World → Prop} (hgd : o.guard = none) (s x : Operand)
    (ho : o.op = .call { callee := .builtin .append, args := #[s, x], argTypes := #[24, 24] }) (hty : o.type = 24)
    (base : Nat) (v : Value) (n : Nat) (xs : List Rc) (hs : a.eval s = v) (g c : Nat) (q : NeedM) (hx : a.eval x = .slice (some ⟨g, 0, none⟩) 1 c)
    (hown : w.ownsRow base 41 4 v n (FL xs)) (A : Arr w g 41 [.int .i64 q.o, .int .i64 q.f, .int .i64 q.t, .int .i64 q.k]) (hn : n ≤ 1048576) (hbase : base ≤ w.heap.size)
    (h : ∀ v' w', w'.ownsRow base 41 4 v' (n + 1) (FL (xs ++ [nrc q])) → w.grownBy w' v.ownBlock → wpList Tryd.prog ops Q rest (a.put o.dst v') w') :
    wpList Tryd.prog ops Q (o :: rest) a w := by
  refine wpList_plain hgd fun K hK => ?_
  obtain ⟨v', w', hr, h2, h3, h5⟩ := run_app_nd w base v n xs hown g c q A hn hbase
  rw [← hty] at hr
  unfold Oper.wp execOp
  simp only [ho, resolve, invoke, builtin, Sem.run_bind, Sem.run_pure, Result.andThen_ok, List.map_toArray, List.map_cons, List.map_nil, hs, hx]
  rw [hty] at hr ⊢
  simp only [hr]
  exact hK _ _ (h v' w' h2 h3)
end Go.Proofs.YtofflhhlacdgfaaDoor
namespace Go.Proofs.YtofflhhlacdgfaaDoor
open Go.RowKit
set_option maxRecDepth 100000
set_option maxHeartbeats 4000000
set_option linter.unusedVariables false

end Go.Proofs.YtofflhhlacdgfaaDoor
namespace Go.Proofs.YtofflhhlacdgfaaDoor
open Go.RowKit

theorem gr_bel {w w' : World} (h : Below w.heap.size w w') (G : Option Nat) : w.grownBy w' G := ⟨h.os, h.tape, h.output, h.size, fun i hi _ => h.block i hi⟩
/-- What an operation does to memory: the one, any other. -/
def Stw (b : Bool) (G : Option Nat) (w w' : World) : Prop := if b = true then w.grownBy w' G else Below w.heap.size w w'
theorem Stw.gr {b : Bool} {G : Option Nat} {w w' : World} (h : Stw b G w w') : w.grownBy w' G := by
  unfold Stw at h
  split at h
  · exact h
  · exact gr_bel h G
def Kwp (b : Bool) (G : Option Nat) (k : Kd) : Prop := ∀ l h w w' v, k.2.2 l h w v → h ≤ w.heap.size → (if b = true then Below w.heap.size w w' else w.grownBy w' G) → k.2.2 l h w' v
theorem Kwp.ord {k : Kd} (h : k.keeps) : Kwp true none k := fun l h' w w' v a b c => h l h' w w' v a b c
def Kws (p : Nat) (G : Option Nat) : Nat → List Kd → Prop
  | _, [] => True
  | i, k :: ks => Kwp (i == p) G k ∧ Kws p G (i + 1) ks
theorem Kws.get {p : Nat} {G : Option Nat} : ∀ {ks : List Kd} {n : Nat}, Kws p G n ks → ∀ (i : Nat) (k : Kd), ks[i]? = some k → Kwp (n + i == p) G k
  | [], _, _, _, _, h => by simp at h
  | k0 :: ks, n, hk, 0, k, h => by simp at h; subst h; exact hk.1
  | k0 :: ks, n, hk, i + 1, k, h => by
    have := Kws.get (ks := ks) hk.2 i k (by simpa using h)
    rw [show n + 1 + i = n + (i + 1) by omega] at this
    exact this
def Rsw (b : Bool) (G : Option Nat) (k : Kd) (w : World) (v : Value) (w' : World) : Prop := ∃ u, v = k.2.1 w.heap.size u ∧ Stw b G w w' ∧ k.2.2 w.heap.size w'.heap.size w' u
def TwR (P : Program) (b : Bool) (G : Option Nat) (ev : Operand → Value) (o : Oper) (k : Kd) (w : World) : Prop :=
  match (execOp ev o).run P w with
  | .ok (.value v) w' => Rsw b G k w v w'
  | .ok .skip w' => Rsw b G k w undef w'
  | .ok (.enter f args) w' => Calls P f args w' fun e w'' => match e with
      | .returned v => Rsw b G k w v w''
      | _ => False
  | .ok (.row row args) w' => Rows P row args w' fun v w'' => Rsw b G k w v w''
  | _ => False
structure Tw (P : Program) (b : Bool) (G : Option Nat) (ev : Operand → Value) (o : Oper) (k : Kd) (w : World) : Prop where
  out : TwR P b G ev o k w
section
variable {P : Program} {ops : Array Oper} {Q : Exit → Act → World → Prop} {p : Nat} {G : Option Nat} {R : World → Prop}
theorem Tw.wp {b : Bool} {a : Act} {ev : Operand → Value} {o : Oper} {k : Kd} {w : World} (h : Tw P b G ev o k w) (he : execOp a.eval o = execOp ev o) {K : Act → World → Prop}
    (hK : ∀ v w', Rsw b G k w v w' → K (a.put o.dst v) w') : Oper.wp P o a w K Q := by
  replace h := h.out
  unfold TwR at h
  unfold Oper.wp
  rw [he]
  generalize (execOp ev o).run P w = r at *
  cases r with
  | ok n w' =>
    cases n <;> simp only [Oper.upon] at h ⊢
    case value => exact hK _ _ h
    case skip => exact hK _ _ h
    case enter =>
      refine Calls.mono h fun e w'' he => ?_
      cases e with
      | returned v => exact hK _ _ he
      | panicked c => exact he.elim
      | outgrown => exact he.elim
    case row => exact Rows.mono h fun v w'' he => hK _ _ he
  | halt x w' => exact h.elim
theorem Tw.of {ev : Operand → Value} {o : Oper} {k : Kd} {w : World} (h : TOb P ev o k w) : Tw P false G ev o k w := ⟨by
  have h := h.out
  unfold TObR at h
  unfold TwR
  have key : ∀ v w', Res k w v w' → Rsw false G k w v w' := fun v w' ⟨u, a, b, c⟩ => ⟨u, a, by unfold Stw; simpa using b, c⟩
  generalize (execOp ev o).run P w = r at *
  cases r with
  | ok n w' =>
    cases n
    case value => exact key _ _ h
    case skip => exact key _ _ h
    case enter =>
      refine Calls.mono h fun e w'' he => ?_
      cases e with
      | returned v => exact key _ _ he
      | panicked c => exact he.elim
      | outgrown => exact he.elim
    case row => exact Rows.mono h fun v w'' he => key _ _ he
    all_goals exact h.elim
  | halt x w' => exact h.elim⟩
/-- The duties: of the one with what it wants, of the others. -/
def Tws (P : Program) (p : Nat) (G : Option Nat) (R : World → Prop) (all : List Kd) (V : Nat → Value) (L H : Nat → Nat) (T : Array Value) (w : World) : Nat → List Oper → List Kd → Prop
  | i, o :: os, k :: ks => Dty (Aft all V L H w o ∧ (i = p → R w)) (Tw P (i == p) G (Act.eval ⟨T, []⟩) o k w) ∧ Tws P p G R all V L H T w (i + 1) os ks
  | _, _, _ => True
theorem Tws.get {all : List Kd} {V : Nat → Value} {L H : Nat → Nat} {T : Array Value} {w : World} : ∀ {os : List Oper} {ks : List Kd} {n : Nat}, Tws P p G R all V L H T w n os ks →
    ∀ (i : Nat) (o : Oper) (k : Kd), os[i]? = some o → ks[i]? = some k → Aft all V L H w o → (n + i = p → R w) → Tw P (n + i == p) G (Act.eval ⟨T, []⟩) o k w
  | [], _, _, _, _, _, _, h, _, _, _ => by simp at h
  | _ :: _, [], _, _, _, _, _, _, h, _, _ => by simp at h
  | o0 :: os, k0 :: ks, n, ho, 0, o, k, h1, h2, ha, hr => by simp at h1 h2; subst h1; subst h2; exact ho.1.out ⟨ha, hr⟩
  | o0 :: os, k0 :: ks, n, ho, i + 1, o, k, h1, h2, ha, hr => by
    have := Tws.get (os := os) (ks := ks) ho.2 i o k (by simpa using h1) (by simpa using h2) ha (fun e => hr (by omega))
    rw [show n + 1 + i = n + (i + 1) by omega] at this
    exact this

/-- Where a region stands while its first operations come up. -/
structure Inw (p : Nat) (G : Option Nat) (R : World → Prop) (ops : Array Oper) (ks : List Kd) (T : Array Value) (df : List Deferred) (w0 : World) (n : Nat) (listed : Array Bool) (a : Act) (w : World) (V : Nat → Value) (L H : Nat → Nat) : Prop where
  size : listed.size = n
  df : a.defers = df
  tmps : a.tmps.size = T.size
  bel : w0.grownBy w G
  pre : listed.getD p false = false → R w
  down : ∀ i o, ops[i]? = some o → listed.getD i false = true → ∀ e ∈ o.after, Region.binds .any e = true → listed.getD e.on false = true
  late : ∀ i, ks.length ≤ i → listed.getD i false = false
  fct : ∀ i k, ks[i]? = some k → listed.getD i false = true → k.2.2 (L i) (H i) w (V i)
  iv : ∀ i, i < ks.length → listed.getD i false = true → w0.heap.size ≤ L i ∧ L i ≤ H i ∧ H i ≤ w.heap.size
  val : ∀ i k t, ks[i]? = some k → listed.getD i false = true → k.1 = some t → a.tmps[t]? = some (k.2.1 (L i) (V i))
  ap : ∀ i j, i < ks.length → j < ks.length → i ≠ j → listed.getD i false = true → listed.getD j false = true → H i ≤ L j ∨ H j ≤ L i
  far : ∀ t, (∀ i k, ks[i]? = some k → k.1 = some t → listed.getD i false = false) → a.tmps[t]? = T[t]?


/-- One more has come up. -/
theorem Inw.step {ks : List Kd} {T : Array Value} {df : List Deferred} {w0 : World} {listed : Array Bool} {a : Act} {w : World} {V : Nat → Value} {L H : Nat → Nat}
    (I : Inw p G R ops ks T df w0 ops.size listed a w V L H) (ok : OkT ops (ks.map (·.1)) T.size) (kp : Kws p G 0 ks) (hR : ∀ a b, R a → Below a.heap.size a b → R b) {i : Nat} {o : Oper} {k : Kd} (ho : ops[i]? = some o) (hk : ks[i]? = some k)
    (hn : listed.getD i false = false) (hall : ∀ e ∈ o.after, Region.binds .any e = true → listed.getD e.on false = true) {u : Value} {w' : World} (hb : Stw (i == p) G w w') (hD : k.2.2 w.heap.size w'.heap.size w' u) :
    Inw p G R ops ks T df w0 ops.size (listed.setIfInBounds i true) (a.put o.dst (k.2.1 w.heap.size u)) w' (fun j => if j = i then u else V j) (fun j => if j = i then w.heap.size else L j) (fun j => if j = i then w'.heap.size else H j) := by
  have hi : i < ks.length := (List.getElem?_eq_some_iff.1 hk).1
  have him : i < (ks.map (·.1)).length := by simpa using hi
  have hio : i < listed.size := by rw [I.size]; exact (Array.getElem?_eq_some_iff.1 ho).1
  have hdk : k.1 = o.dst := by
    have := ok.dst i o ho him
    simp [hk] at this
    exact this
  have other : ∀ j, j ≠ i → (listed.setIfInBounds i true).getD j false = listed.getD j false := fun j hj => getD_set_other (Ne.symm hj)
  have szw := hb.gr.size
  have ne_dst : ∀ j k' t, ks[j]? = some k' → k'.1 = some t → j ≠ i → o.dst ≠ some t := fun j k' t hj ht hne hd => by
    have hjl : j < ks.length := (List.getElem?_eq_some_iff.1 hj).1
    exact hne (ok.one i o t ho him hd j (by simpa using hjl) (by simp [hj, ht]))
  have put_ne : ∀ t v, o.dst ≠ some t → (a.put o.dst v).tmps[t]? = a.tmps[t]? := fun t v hne => by
    cases hd : o.dst with
    | none => rfl
    | some d =>
      have : d ≠ t := fun e => hne (by rw [hd, e])
      simp [Act.put, Array.getElem?_setIfInBounds_ne this]
  refine ⟨by simpa using I.size, ?_, ?_, grown_trans I.bel hb.gr, fun hpn => ?_, fun j oj hj hl e he hbn => ?_, fun j hj => ?_, fun j k' hj hl => ?_, fun j hj hl => ?_, fun j k' t hj hl ht => ?_, fun j1 j2 h1 h2 hne l1 l2 => ?_, fun t ht => ?_⟩
  · cases o.dst <;> exact I.df
  · have := I.tmps
    cases hd : o.dst <;> simpa [Act.put] using this
  · by_cases hip : i = p
    · subst hip; rw [getD_set_same hio] at hpn; cases hpn
    · rw [other p (fun e => hip e.symm)] at hpn
      have hb' : Below w.heap.size w w' := by unfold Stw at hb; simpa [hip] using hb
      exact hR w w' (I.pre hpn) hb'
  · by_cases hei : e.on = i
    · rw [hei]; exact getD_set_same hio
    · rw [other e.on hei]
      by_cases hji : j = i
      · subst hji
        rw [ho] at hj; cases hj
        exact hall e he hbn
      · rw [other j hji] at hl
        exact I.down j oj hj hl e he hbn
  · rw [other j (by omega)]; exact I.late j hj
  · by_cases hji : j = i
    · subst hji
      rw [hk] at hj; cases hj
      simpa using hD
    · rw [other j hji] at hl
      simp only [hji, if_false]
      have hjl : j < ks.length := (List.getElem?_eq_some_iff.1 hj).1
      refine kp.get j k' hj _ _ _ _ _ (I.fct j k' hj hl) (I.iv j hjl hl).2.2 ?_
      by_cases hjp : j = p
      · subst hjp
        have hip : ¬ i = j := fun e => hji e.symm
        have hb' : Below w.heap.size w w' := by unfold Stw at hb; simpa [hip] using hb
        simpa using hb'
      · have e0 : (0 + j == p) = false := by simpa using hjp
        rw [e0]
        simpa using hb.gr
  · by_cases hji : j = i
    · subst hji
      simp only [if_true]
      exact ⟨I.bel.size, szw, Nat.le_refl _⟩
    · rw [other j hji] at hl
      simp only [hji, if_false]
      have := I.iv j hj hl
      exact ⟨this.1, this.2.1, Nat.le_trans this.2.2 szw⟩
  · by_cases hji : j = i
    · subst hji
      rw [hk] at hj; cases hj
      rw [hdk] at ht
      have hlt : t < a.tmps.size := by rw [I.tmps]; exact ok.lt j o t ho him ht
      simp [ht, Act.put, hlt]
    · rw [other j hji] at hl
      simp only [hji, if_false]
      rw [put_ne t _ (ne_dst j k' t hj ht hji)]
      exact I.val j k' t hj hl ht
  · by_cases h1i : j1 = i
    · subst h1i
      have h2i : j2 ≠ j1 := Ne.symm hne
      rw [other j2 h2i] at l2
      simp only [h2i, if_true, if_false]
      exact .inr (I.iv j2 h2 l2).2.2
    · rw [other j1 h1i] at l1
      by_cases h2i : j2 = i
      · subst h2i
        simp only [h1i, if_true, if_false]
        exact .inl (I.iv j1 h1 l1).2.2
      · rw [other j2 h2i] at l2
        simp only [h1i, h2i, if_false]
        exact I.ap j1 j2 h1 h2 hne l1 l2
  · have h1 : o.dst ≠ some t := fun hd => by
      have := ht i k hk (by rw [hdk, hd])
      rw [getD_set_same hio] at this; cases this
    rw [put_ne t _ h1]
    refine I.far t fun j k' hj hd => ?_
    have hji : j ≠ i := fun e => by subst e; rw [hk] at hj; cases hj; exact h1 (by rw [← hdk, hd])
    rw [← other j hji]; exact ht j k' hj hd

theorem Inw.waits {ks : List Kd} {T : Array Value} {df : List Deferred} {w0 : World} {n : Nat} {listed : Array Bool} {a : Act} {w : World} {V : Nat → Value} {L H : Nat → Nat}
    (I : Inw p G R ops ks T df w0 n listed a w V L H) (j : Nat) : ∀ (f i : Nat), waits ops f i j = true → (∀ o, ops[i]? = some o → ∀ e ∈ o.after, Region.binds .any e = true → listed.getD e.on false = true) → listed.getD j false = true
  | 0, _, h, _ => by simp [Proofs.YtofflhhlacdgfaaDoor.waits] at h
  | f + 1, i, h, ha => by
    unfold Proofs.YtofflhhlacdgfaaDoor.waits at h
    cases ho : ops[i]? with
    | none => simp [ho] at h
    | some o =>
      simp only [ho, List.any_eq_true, Array.mem_toList_iff, Bool.and_eq_true, Bool.or_eq_true, beq_iff_eq] at h
      obtain ⟨e, he, hb, h⟩ := h
      have hl := ha o ho e he hb
      rcases h with rfl | h
      · exact hl
      · exact I.waits j f e.on h (fun o' ho' e' he' hb' => I.down e.on o' ho' hl e' he' hb')

/-- What an operation looks at stands in its place already. -/
theorem Inw.looks {ks : List Kd} {T : Array Value} {df : List Deferred} {w0 : World} {listed : Array Bool} {a : Act} {w : World} {V : Nat → Value} {L H : Nat → Nat}
    (I : Inw p G R ops ks T df w0 ops.size listed a w V L H) (ok : OkT ops (ks.map (·.1)) T.size) {i : Nat} {o : Oper} (ho : ops[i]? = some o) (hi : i < ks.length)
    (hr : ∀ e ∈ o.after, Region.binds .any e = true → listed.getD e.on false = true) (t : Nat) (ht : t ∈ o.looksAt ops) : a.tmps[t]? = (fillK V L 0 ks T)[t]? := by
  have him : i < (ks.map (·.1)).length := by simpa using hi
  by_cases h : ∃ (j : Nat) (k : Kd), ks[j]? = some k ∧ k.1 = some t
  · obtain ⟨j, k, hj, hk⟩ := h
    have hjl : j < ks.length := (List.getElem?_eq_some_iff.1 hj).1
    obtain ⟨e, he, hb, hon⟩ := ok.look i o ho him t ht j (by simpa using hjl) (by simp [hj, hk])
    have hl := hr e he hb
    rw [hon] at hl
    obtain ⟨oj, hoj⟩ : ∃ oj, ops[j]? = some oj := ⟨_, Array.getElem?_eq_some_iff.2 ⟨Nat.lt_of_lt_of_le (by simpa using hjl) ok.len, rfl⟩⟩
    have hdj : oj.dst = some t := by
      have := ok.dst j oj hoj (by simpa using hjl)
      simp [hj, hk] at this
      exact this.symm
    rw [I.val j k t hj hl hk, fillK_at V L t ks 0 j k T hj hk (ok.lt j oj t hoj (by simpa using hjl) hdj) (fun j' k' h1 h2 => by
      have hl' : j' < ks.length := (List.getElem?_eq_some_iff.1 h1).1
      exact ok.one j oj t hoj (by simpa using hjl) hdj j' (by simpa using hl') (by simp [h1, h2]))]
    simp
  · rw [I.far t (fun j k hj hk => absurd ⟨j, k, hj, hk⟩ h), fillK_far V L t ks 0 T (fun k hk hd => by
      obtain ⟨j, hj⟩ := List.mem_iff_getElem?.1 hk
      exact h ⟨j, k, hj, hd⟩)]

theorem Inw.done {ks : List Kd} {T : Array Value} {df : List Deferred} {w0 : World} {n : Nat} {listed : Array Bool} {a : Act} {w : World} {V : Nat → Value} {L H : Nat → Nat}
    (I : Inw p G R ops ks T df w0 n listed a w V L H) (ok : OkT ops (ks.map (·.1)) T.size) (hall : ∀ i, i < ks.length → listed.getD i false = true) : a = ⟨fillK V L 0 ks T, df⟩ := by
  have : a.tmps = fillK V L 0 ks T := by
    apply Array.ext_getElem?
    intro t
    by_cases h : ∃ (j : Nat) (k : Kd), ks[j]? = some k ∧ k.1 = some t
    · obtain ⟨j, k, hj, hk⟩ := h
      have hjl : j < ks.length := (List.getElem?_eq_some_iff.1 hj).1
      obtain ⟨oj, hoj⟩ : ∃ oj, ops[j]? = some oj := ⟨_, Array.getElem?_eq_some_iff.2 ⟨Nat.lt_of_lt_of_le (by simpa using hjl) ok.len, rfl⟩⟩
      have hdj : oj.dst = some t := by
        have := ok.dst j oj hoj (by simpa using hjl)
        simp [hj, hk] at this
        exact this.symm
      rw [I.val j k t hj (hall j hjl) hk, fillK_at V L t ks 0 j k T hj hk (ok.lt j oj t hoj (by simpa using hjl) hdj) (fun j' k' h1 h2 => by
        have hl' : j' < ks.length := (List.getElem?_eq_some_iff.1 h1).1
        exact ok.one j oj t hoj (by simpa using hjl) hdj j' (by simpa using hl') (by simp [h1, h2]))]
      simp
    · rw [I.far t (fun j k hj hk => absurd ⟨j, k, hj, hk⟩ h), fillK_far V L t ks 0 T (fun k hk hd => by
        obtain ⟨j, hj⟩ := List.mem_iff_getElem?.1 hk
        exact h ⟨j, k, hj, hd⟩)]
  cases a
  simp only [Act.mk.injEq]
  exact ⟨this, I.df⟩

theorem tamw_go {ks : List Kd} {T : Array Value} {df : List Deferred} {w0 : World} (ok : OkT ops (ks.map (·.1)) T.size) (okr : okRs ops ks.length [] = true) (kp : Kws p G 0 ks) (hg : ∀ (i : Nat) (o : Oper), ops[i]? = some o → o.guard = none) (hR : ∀ a b, R a → Below a.heap.size a b → R b)
    (hob : ∀ V L H w, w0.grownBy w G → Tws P p G R ks V L H (fillK V L 0 ks T) w 0 ops.toList ks)
    (hfin : ∀ V L H w, w0.grownBy w G → Fct V L H w 0 ks → (∀ i, i < ks.length → w0.heap.size ≤ L i ∧ L i ≤ H i ∧ H i ≤ w.heap.size) →
      (∀ i j, i < ks.length → j < ks.length → i ≠ j → H i ≤ L j ∨ H j ≤ L i) → wpAny P .any ops Q (ops.size - ks.length) (ends ops.size ks.length) ⟨fillK V L 0 ks T, df⟩ w) :
    ∀ (r : Nat) (listed : Array Bool) (a : Act) (w : World) (V : Nat → Value) (L H : Nat → Nat), Inw p G R ops ks T df w0 ops.size listed a w V L H → cnt listed ks.length + r = ks.length →
      wpAny P .any ops Q (ops.size - ks.length + r) listed a w
  | 0, listed, a, w, V, L, H, I, hc => by
    have hall := cnt_all listed ks.length (by omega)
    have ha := I.done ok hall
    subst ha
    have hlen : ks.length ≤ ops.size := by simpa using ok.len
    have hl : listed = ends ops.size ks.length := by
      apply Array.ext
      · rw [I.size]; simp [ends]; omega
      · intro i h1 h2
        by_cases hi : i < ks.length
        · have := hall i hi
          simp [h1] at this
          rw [this]
          simp [ends, hi]
        · have := I.late i (by omega)
          simp [h1] at this
          rw [this]
          simp [ends, List.getElem_append, hi]
    rw [hl]
    exact hfin V L H w I.bel (Fct.of ks 0 (fun j k hj => by
      have hjl : j < ks.length := (List.getElem?_eq_some_iff.1 hj).1
      simpa using I.fct j k hj (hall j hjl))) (fun i hi => I.iv i hi (hall i hi)) (fun i j hi hj hne => I.ap i j hi hj hne (hall i hi) (hall j hj))
  | r + 1, listed, a, w, V, L, H, I, hc => by
    have hlen : ks.length ≤ ops.size := by simpa using ok.len
    have same : ∀ {i : Nat} {o : Oper}, ops[i]? = some o → i < ks.length → (∀ e ∈ o.after, Region.binds .any e = true → listed.getD e.on false = true) →
        execOp a.eval o = execOp (Act.eval ⟨fillK V L 0 ks T, []⟩) o ∧ Region.wanted o (yielded ops a.tmps) = Region.wanted o (yielded ops (fillK V L 0 ks T)) := by
      intro i o ho hi hall
      have hlook := I.looks ok ho hi hall
      refine ⟨execOp_congr o (fun cs b => ok.sel i o cs b ho) fun x hx => ?_, ?_⟩
      · cases x with
        | tmp t =>
          have := hlook t (List.mem_append_left _ (List.mem_filterMap.2 ⟨.tmp t, by simpa using hx, rfl⟩))
          simp only [Act.eval, Array.getD_eq_getD_getElem?, this]
        | const => rfl
        | global => rfl
        | func => rfl
      · unfold Region.wanted
        cases hg : o.guard with
        | none => rfl
        | some p =>
          obtain ⟨j, want⟩ := p
          simp only
          congr 1
          unfold yielded
          cases hj : (ops[j]?).bind (·.dst) with
          | none => rfl
          | some d =>
            have := hlook d (by
              unfold Oper.looksAt
              rw [hg]
              exact List.mem_append_right _ (by simp [hj]))
            simp only [Option.bind_some, this]
    refine ⟨fun h0 => ?_, fun i hir => ?_⟩
    · -- the least that has not come up may come up
      exfalso
      have : ¬ ∀ i, i < ks.length → listed.getD i false = true := fun h => by have := cnt_of_all listed _ h; omega
      have least : ∀ n, n ≤ ks.length → ∀ i, i < n → listed.getD i false = true := by
        intro n
        induction n with
        | zero => intro _ i hi; omega
        | succ n ih =>
          intro hn i hi
          by_cases hin : i = n
          · subst hin
            cases hx : listed.getD i false with
            | true => rfl
            | false =>
              exfalso
              obtain ⟨o, ho⟩ : ∃ o, ops[i]? = some o := ⟨_, Array.getElem?_eq_some_iff.2 ⟨Nat.lt_of_lt_of_le hn hlen, rfl⟩⟩
              have hm : i ∈ Region.ready .any ops listed := by
                refine mem_ready.2 ⟨?_, o, ho, fun e he hb => ?_⟩
                · have hs : i < listed.size := by rw [I.size]; omega
                  simp [hs] at hx ⊢; exact hx
                · exact ih (by omega) e.on (ok.back i o ho (by simp; omega) e he hb)
              rw [h0] at hm; cases hm
          · exact ih (by omega) i (by omega)
      exact this (least _ (Nat.le_refl _))
    · obtain ⟨hun, o, ho, hall⟩ := mem_ready.1 hir
      have hio : i < ops.size := (Array.getElem?_eq_some_iff.1 ho).1
      have hn : listed.getD i false = false := by
        have hs : i < listed.size := by rw [I.size]; exact hio
        simp [hs] at hun ⊢; exact hun
      have hi : i < ks.length := by
        rcases Nat.lt_or_ge i ks.length with h | h
        · exact h
        · exfalso
          have early : ∀ j, j < ks.length → listed.getD j false = true := fun j hj => I.waits j 8 i (okRs_rest okr i hio h j hj (by simp)) (fun o' ho' => by rw [ho] at ho'; cases ho'; exact hall)
          have := cnt_of_all listed ks.length early
          omega
      obtain ⟨k, hk⟩ : ∃ k, ks[i]? = some k := ⟨_, List.getElem?_eq_some_iff.2 ⟨hi, rfl⟩⟩
      obtain ⟨hex, hwa⟩ := same ho hi hall
      have hO := (hob V L H w I.bel).get i o k (by simpa using ho) hk (fun e he hb k' hk' => I.fct e.on k' hk' (hall e he hb)) (fun e => by rw [Nat.zero_add] at e; subst e; exact I.pre hn)
      rw [Nat.zero_add] at hO
      have go : ∀ v w', Rsw (i == p) G k w v w' → wpAny P .any ops Q (ops.size - ks.length + r) (listed.setIfInBounds i true) (a.put o.dst v) w' := by
        rintro v w' ⟨u, rfl, hb, hD⟩
        refine tamw_go ok okr kp hg hR hob hfin r _ _ _ _ _ _ (I.step ok kp hR ho hk hn hall hb hD) ?_
        rw [cnt_set listed i (by rw [I.size]; exact hio) hn, if_pos hi]
        omega
      unfold wpOp
      simp only [ho]
      rw [if_pos (by simp [Region.wanted, hg i o ho])]
      exact .inl (hO.wp hex go)

theorem tameW (ks : List Kd) (m : Nat) (hmk : ks.length = m) {T : Array Value} {df : List Deferred} {id : Nat} {w : World} (hm : P.follows .mixedOrders = true) (ok : (okT ops (ks.map (·.1)) T.size && okRs ops ks.length []) = true) (kp : Kws p G 0 ks) (hg : ops.toList.all (fun o => o.guard.isNone) = true) (hR0 : R w) (hR : ∀ a b, R a → Below a.heap.size a b → R b)
    (r : Nat) (hr : ops.size - ks.length = r) (hob : ∀ V L H w', w.grownBy w' G → Tws P p G R ks V L H (fillK V L 0 ks T) w' 0 ops.toList ks)
    (hfin : ∀ V L H w', w.grownBy w' G → Fct V L H w' 0 ks → (∀ i, i < m → w.heap.size ≤ L i ∧ L i ≤ H i ∧ H i ≤ w'.heap.size) →
      (∀ i j, i < m → j < m → i ≠ j → H i ≤ L j ∨ H j ≤ L i) → wpAny P .any ops Q r (ends ops.size ks.length) ⟨fillK V L 0 ks T, df⟩ w') :
    (Code.region id ops true).wp P Q ⟨T, df⟩ w := by
  subst hr hmk
  rw [Bool.and_eq_true] at ok
  have hs := okT_spec ok.1
  have hlen : ks.length ≤ ops.size := by simpa using hs.len
  have hd : ∀ {w' : World}, w.drew.grownBy w' G → w.grownBy w' G := fun h => ⟨h.os, h.tape, h.output, h.size, h.block⟩
  have hg' : ∀ (i : Nat) (o : Oper), ops[i]? = some o → o.guard = none := fun i o ho => by
    have hm := List.all_eq_true.1 hg o (by have := (Array.getElem?_eq_some_iff.1 ho); rw [← this.2]; exact Array.getElem_mem_toList this.1)
    simpa using hm
  have hR1 : R w.drew := hR w w.drew hR0 ⟨rfl, rfl, rfl, Nat.le_refl _, fun _ _ => rfl⟩
  refine wp_region_any hm ?_
  have := tamw_go (P := P) (Q := Q) (df := df) (w0 := w.drew) hs ok.2 kp hg' hR (fun V L H w' h => hob V L H w' (hd h)) (fun V L H w' h => hfin V L H w' (hd h)) ks.length (Array.replicate ops.size false) ⟨T, df⟩ w.drew (fun _ => undef) (fun _ => 0) (fun _ => 0)
    ⟨by simp, rfl, rfl, World.grownBy.refl _ _, fun _ => hR1, fun i _ _ h => by exfalso; by_cases h' : i < ops.size <;> simp [h'] at h, fun i _ => by by_cases h : i < ops.size <;> simp [h], fun i k _ h => by exfalso; by_cases h' : i < ops.size <;> simp [h'] at h,
     fun i _ h => by exfalso; by_cases h' : i < ops.size <;> simp [h'] at h, fun i k t _ h => by exfalso; by_cases h' : i < ops.size <;> simp [h'] at h,
     fun i j _ _ _ h => by exfalso; by_cases h' : i < ops.size <;> simp [h'] at h, fun t _ => rfl⟩
    (by
      have : cnt (Array.replicate ops.size false) ks.length = 0 := by
        unfold cnt
        rw [List.length_eq_zero_iff, List.filter_eq_nil_iff]
        intro i _ h
        by_cases h' : i < ops.size <;> simp [h'] at h
      omega)
  rw [Nat.sub_add_cancel hlen] at this
  exact this


theorem kc_kw (b : Bool) (G : Option Nat) (d : Nat) (c : Value) : Kwp b G (kc d c) := fun _ _ _ _ _ _ _ _ => trivial
/-- An ordinary duty, and the one's. -/
theorem ow {X : Prop} {ev : Operand → Value} {o : Oper} {k : Kd} {w : World} (h : Dty X (TOb P ev o k w)) : Dty (X ∧ (False → R w)) (Tw P false G ev o k w) := ⟨fun x => Tw.of (h.out x.1)⟩
end
end Go.Proofs.YtofflhhlacdgfaaDoor
namespace Go.Proofs.YtofflhhlacdgfaaDoor
set_option maxRecDepth 100000
open Go.RowKit

theorem u8_wrap (v : BitVec 8) : IntKind.u8.wrap (v.toNat : Int) = (v.toNat : Int) := by
  have := v.isLt
  simp [IntKind.wrap, IntKind.signed, IntKind.bits]
  omega
theorem u8_back (v : BitVec 8) : BitVec.ofInt 8 (v.toNat : Int) = v := by
  apply BitVec.eq_of_toNat_eq
  simp
theorem bits_byte (op : BinOp) (x y : Int) : 0 ≤ bits op .u8 x y ∧ bits op .u8 x y < 256 := ⟨bits_lo_u8 op x y, by have := bits_hi_u8 op x y; omega⟩
theorem b_and (x y : Int) : bits .and .u8 x y = ((BitVec.ofInt 8 x &&& BitVec.ofInt 8 y).toNat : Int) := u8_wrap _
theorem b_or (x y : Int) : bits .or .u8 x y = ((BitVec.ofInt 8 x ||| BitVec.ofInt 8 y).toNat : Int) := u8_wrap _
theorem b_xor (x y : Int) : bits .xor .u8 x y = ((BitVec.ofInt 8 x ^^^ BitVec.ofInt 8 y).toNat : Int) := u8_wrap _
theorem b_nand (x y : Int) : bits .andNot .u8 x y = ((BitVec.ofInt 8 x &&& ~~~BitVec.ofInt 8 y).toNat : Int) := u8_wrap _
theorem v255 : BitVec.ofInt 8 255 = BitVec.allOnes 8 := rfl
theorem ones8 : ∀ j : Fin 8, (255#8 : BitVec 8)[j.1] = true := by decide
section
variable {P : Program} {ops : Array Oper} {Q : Exit → Act → World → Prop}
/-- A store that comes up alone. -/
theorem st_do {listed : Array Bool} {fuel i : Nat} {o : Oper} {a : Act} {w w' : World} (hr : Region.ready .any ops listed = [i]) (ho : ops[i]? = some o) (hg : o.guard = none) (hd : o.dst = none) (hx : (execOp a.eval o).run P w = .ok .skip w')
    (h : wpAny P .any ops Q fuel (listed.setIfInBounds i true) a w') : wpAny P .any ops Q (fuel + 1) listed a w := by
  refine ⟨fun h0 => absurd (hr.symm.trans h0) (by simp), fun j hj => ?_⟩
  rw [hr] at hj
  rcases List.mem_singleton.1 hj with rfl
  unfold wpOp
  simp only [ho]
  rw [if_pos (by simp [Region.wanted, hg])]
  refine .inl ?_
  unfold Oper.wp
  rw [hx]
  show wpAny P .any ops Q fuel (listed.setIfInBounds j true) _ w'
  first | exact h | simpa [hd, Act.put] using h
theorem st_call {listed : Array Bool} {fuel i : Nat} {o : Oper} {a : Act} {w : World} {f : FuncId} {args : Array Value} (hr : Region.ready .any ops listed = [i]) (ho : ops[i]? = some o) (hg : o.guard = none) (hx : (execOp a.eval o).run P w = .ok (.enter f args) w)
    (h : Calls P f args w fun e w' => ∃ v, e = .returned v ∧ wpAny P .any ops Q fuel (listed.setIfInBounds i true) (a.put o.dst v) w') : wpAny P .any ops Q (fuel + 1) listed a w := by
  refine ⟨fun h0 => absurd (hr.symm.trans h0) (by simp), fun j hj => ?_⟩
  rw [hr] at hj
  rcases List.mem_singleton.1 hj with rfl
  unfold wpOp
  simp only [ho]
  rw [if_pos (by simp [Region.wanted, hg])]
  refine .inl ?_
  unfold Oper.wp
  rw [hx]
  show Calls P f args w _
  refine h.mono ?_
  rintro e w' ⟨v, rfl, h⟩
  exact h
theorem st_val {listed : Array Bool} {fuel i : Nat} {o : Oper} {a : Act} {w w' : World} {v : Value} (hr : Region.ready .any ops listed = [i]) (ho : ops[i]? = some o) (hg : o.guard = none) (hx : (execOp a.eval o).run P w = .ok (.value v) w')
    (h : wpAny P .any ops Q fuel (listed.setIfInBounds i true) (a.put o.dst v) w') : wpAny P .any ops Q (fuel + 1) listed a w := by
  refine ⟨fun h0 => absurd (hr.symm.trans h0) (by simp), fun j hj => ?_⟩
  rw [hr] at hj
  rcases List.mem_singleton.1 hj with rfl
  unfold wpOp
  simp only [ho]
  rw [if_pos (by simp [Region.wanted, hg])]
  refine .inl ?_
  unfold Oper.wp
  rw [hx]
  exact h
end
end Go.Proofs.YtofflhhlacdgfaaDoor

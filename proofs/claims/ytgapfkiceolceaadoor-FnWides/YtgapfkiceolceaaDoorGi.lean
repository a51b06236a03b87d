/-
  What is proved here: the contract of the program's Wide at every slice of bytes; where the program's variables hold what its text lays into them.
-/
import Derived.Test.YtgapfkiceolceaaDoorGkw
import Derived.Test.YtgapfkiceolceaaDoorGx
import Derived.Test.YtgapfkiceolceaaDoorQ1
import Derived.Test.YtgapfkiceolceaaDoorQ3
namespace Go.Proofs.YtgapfkiceolceaaDoor
open Go.RowKit Go.Shelf
set_option maxRecDepth 100000
attribute [local go_sem] Oper.semAt_some

theorem appendLiesIn {F : Fence} {n : Nat} {P : Program} (w : World) {ops : Array Oper} {rest : List Oper} {o : Oper} {a : Act} {Q : Exit → Act → World → Prop}
    (hg : o.guard = none) (s x : Operand) (t : TypeId) (hop : o.op = Op.call { callee := Callee.builtin Builtin.append, args := #[s, x], argTypes := #[t, t] })
    (base : Nat) (e : TypeId) (i : TypeInfo) (z : Value) (size bytes : Nat) (h1 : P.underlying t = some (.slice e)) (h2 : P.info? e = some i) (h3 : i.zero = some z) (h4 : i.size = size) (h5 : i.bytes = bytes) (h6 : z.cells.size = size) (h7 : 0 < size)
    (v : Value) (k : Nat) (xs : List Value) (hs : a.eval s = v) (hown : w.ownsRow base e size v k xs) (ad : Addr) (m c : Nat) (news : List Value) (hx : a.eval x = .slice (some ad) m c) (hn : news.length = m * size)
    (hc : ∀ j u, news[j]? = some u → w.cell? (ad.add j) = some u) (h1c : ∀ u ∈ news, u.oneCell' = true) (hm : 0 < m) (b1 : k + m ≤ maxLen) (b2 : (k + m) * bytes ≤ 140737488355328) (b3 : base ≤ w.heap.size)
    (hK : ∀ g cap w', w'.ownsRow base e size (.slice (some ⟨g, 0, none⟩) (k + m) cap) (k + m) (xs ++ news) → w.grownBy w' v.ownBlock → (v.ownBlock = some g ∨ g = w.heap.size) → wpListIn F n P ops Q rest (a.put o.dst (.slice (some ⟨g, 0, none⟩) (k + m) cap)) w') :
    wpListIn F n P ops Q (o :: rest) a w := by
  refine wpListIn_plain hg fun K hK' => ?_
  obtain ⟨g, cap, w', hrun, r1, r2, r3, _⟩ := run_append_lies (P := P) w t o.type base e i z size bytes h1 h2 h3 h4 h5 h6 h7 v k xs hown ad m c news hn hc h1c hm b1 b2 b3 _ rfl
  refine ⟨by simp [Oper.about, hop, resolve, Target.leads, Sem.run_pure], ?_⟩
  rw [Oper.semAt_plain F _ _ (by rw [hop]; intro c hc'; cases hc')]
  simp [execOp, hop, resolve, invoke, builtin, hs, hx, hrun, Result.andThen]
  exact hK' _ _ (hK g cap w' r1 r2 r3)

/-- Where Wide's loop stands: the halves of k words are collected; the iterator's own row lies in block g. -/
structure Wk (w : World) (S : Nat) (ws : List Int) (k g : Nat) (W : World) : Prop where
  gS : S ≤ g
  sz : S + 2 ≤ W.heap.size
  fr : Below w.heap.size w W
  bx : ∃ v, Arr W w.heap.size 25 [v] ∧ W.ownsRow (S + 2) 3 1 v (2 * k) (I64 (halves (ws.take k))) ∧ v.ownBlock ≠ some g
theorem Wk.step {w : World} {S : Nat} {ws : List Int} (hS : w.heap.size < S) (k g g' : Nat) (A B : World) (_ : S ≤ g) (h : Wk w S ws k g A) (hg : A.grownBy B (some g)) (hgg : g' = g ∨ A.heap.size ≤ g') : Wk w S ws k g' B := by
  have h1 := h.gS
  have h2 := h.sz
  obtain ⟨v, hb, ho, hne⟩ := h.bx
  refine ⟨by omega, Nat.le_trans h2 hg.size, h.fr.grown hg h.fr.size (fun j e => by cases e; omega), v, (hg.block _ hb.lt (fun e => by injection e with e; omega)).trans hb, ho.kept hg (.inr hne), ?_⟩
  intro e
  rcases hgg with rfl | h3
  · exact hne e
  · have := (ho.lt g' e).2; omega
theorem Wk.put {w : World} {S : Nat} {ws : List Int} (hS : w.heap.size < S) (k g : Nat) (A : World) (o : Obj) (h : Wk w S ws k g A) : Wk w S ws k g (A.putObj (S + 1) o) := by
  have h2 := h.sz
  obtain ⟨v, hb, ho, hne⟩ := h.bx
  refine ⟨h.gS, by simpa using h2, h.fr.grown (grownBy_putObj' _ _ _) h.fr.size (fun j e => by cases e; omega), v, (World.putObj_heap_other (by omega)).trans hb, ho.kept (grownBy_putObj' _ _ _) ?_, hne⟩
  right
  intro e
  have := (ho.lt _ e).1
  omega

theorem grown_allocW {W B : World} {o : Obj} {r : Option Nat} (h : (W.alloc o).grownBy B r) : W.grownBy B r :=
  ⟨h.os, h.tape, h.output, by have := h.size; simp at this; omega, fun i hi hne => (h.block i (by simp; omega) hne).trans (heap_alloc_old W o hi)⟩
theorem Wk.next {w W B : World} {S k g g4 cap4 : Nat} {ws : List Int} {v : Value} {o : Obj} {x y : Int} (hS : w.heap.size < S) (hgS : S ≤ g) (hgl : g < W.heap.size) (hsz : S + 2 ≤ W.heap.size) (hfr : Below w.heap.size w W)
    (hb : Arr W w.heap.size 25 [v]) (ho : W.ownsRow (S + 2) 3 1 v (2 * k) (I64 (halves (ws.take k)))) (hne : v.ownBlock ≠ some g) (hn : halves (ws.take (k + 1)) = halves (ws.take k) ++ [x, y])
    (ho4 : B.ownsRow (S + 2) 3 1 (.slice (some ⟨g4, 0, none⟩) (2 * k + 2) cap4) (2 * k + 2) (I64 (halves (ws.take k)) ++ I64 [x, y])) (hg4 : (W.alloc o).grownBy B v.ownBlock) (hat : v.ownBlock = some g4 ∨ g4 = (W.alloc o).heap.size) (K : Nat → Prop) (hK : ∀ b, K b → w.heap.size < b ∧ b < S + 2 ∨ b = g) :
    Wk w S ws (k + 1) g (B.setCell ⟨w.heap.size, 0, none⟩ (.slice (some ⟨g4, 0, none⟩) (2 * k + 2) cap4)) ∧ Same K W (B.setCell ⟨w.heap.size, 0, none⟩ (.slice (some ⟨g4, 0, none⟩) (2 * k + 2) cap4)) := by
  have G := grown_allocW hg4
  have hvb : ∀ j, v.ownBlock = some j → S + 2 ≤ j := fun j e => (ho.lt j e).1
  have hb4 : Arr B w.heap.size 25 [v] := (G.block _ hb.lt (fun e => by have := hvb _ e.symm; omega)).trans hb
  have hb5 := hb4.set 0 (.slice (some ⟨g4, 0, none⟩) (2 * k + 2) cap4)
  refine ⟨⟨hgS, by have := G.size; simp; omega, (hfr.grown G hfr.size (fun j e => by have := hvb j e; omega)).setCell (p := ⟨w.heap.size, 0, none⟩) (Nat.le_refl _) _, _, hb5, ?_, ?_⟩, ?_⟩
  · rw [hn, show 2 * (k + 1) = 2 * k + 2 by omega]
    refine own_other ?_ _ _ (by show w.heap.size < S + 2; omega)
    simpa using ho4
  · intro e
    have e2 : g4 = g := by simpa [Value.ownBlock] using e
    subst e2
    rcases hat with h | h
    · exact hne h
    · simp at h; omega
  · refine ⟨by have := G.size; simp; omega, fun b hbk hbl => ?_⟩
    have h1 : b ≠ w.heap.size := by rcases hK b hbk with h | h <;> omega
    refine (heap_setCell_other _ _ _ _ (by exact h1)).trans (G.block b hbl ?_)
    intro e
    have := hvb b e.symm
    rcases hK b hbk with h | h
    · omega
    · subst h; exact hne e.symm

set_option maxHeartbeats 2000000 in
theorem implWide128 (a : Option Addr) (c : Nat) (xs : List Int) (w : World) (hx : Bs w a 128 c xs) (ht : Tabw w) :
    Calls Tryd.prog 27 #[.slice a 128 c] w fun e w' => ∃ v, e = .returned (.tuple #[v, .bool true]) ∧ w'.ownsRow w.heap.size 3 1 v 160 (I64 (halves (schedW xs 80))) ∧ Below w.heap.size w w' := by
  obtain ⟨i0, hi, hz0, hz1, hz2⟩ := info_parts Tryd.info3
  obtain ⟨W0, hW0⟩ : ∃ W0, W0 = w.alloc (.cells #[.slice none 0 0] 25) := ⟨_, rfl⟩
  have hS0 : W0.heap.size = w.heap.size + 1 := by rw [hW0]; simp
  have hB0 : Below w.heap.size w W0 := by rw [hW0]; exact (Below.refl _ _).alloc (Nat.le_refl _) _
  have hX0 : Arr W0 w.heap.size 25 [.slice none 0 0] := by rw [hW0]; exact Arr.new w [.slice none 0 0] _
  refine (callsIn_wide (n := 3)).1 ?_
  refine callsIn_of_wp_marks Tryd.func27 rfl trivial ?_ rfl
  simp only [Tryd.ntmps27, List.size_toArray, List.length_cons, List.length_nil, Nat.reduceAdd, Nat.reduceSub, Array.replicate_succ, Array.replicate_zero, List.push_toArray, List.append_toArray, List.nil_append, List.cons_append]
  gi_wp2
  rw [← hW0]
  refine ⟨trivial, (callsIn_wide.2 (rulesCw W0 (ht.kept hB0))).mono ?_⟩
  rintro e w1 ⟨rb, rfl, hrb1, hge1, hb1⟩
  have hB1 := hB0.trans (hb1.mono hB0.size)
  have hX1 := hX0.kept hb1
  clear hB0 hX0 hW0
  gi_wp2
  refine ⟨trivial, (callsIn_wide.2 (schedFw a c rb w1)).mono ?_⟩
  rintro e w2 ⟨rfl, hp2, hq2, hs2, hb2⟩
  have hB2 := hB1.trans (hb2.mono hB1.size)
  have hX2 := hX1.kept hb2
  have hx2 := hx.below hB2
  have hs1 := hb1.size
  clear hB1 hX1 hb1 hb2 hrb1 hge1 hx ht
  obtain ⟨ws, hws⟩ : ∃ ws, ws = schedW xs 80 := ⟨_, rfl⟩
  have hwl : ws.length = 80 := by rw [hws]; exact schedW_len xs 80
  have hww : ∀ x ∈ ws, 0 ≤ x ∧ x < 18446744073709551616 := by rw [hws]; exact schedW_word hx2.2.2.2.1 80
  have HT : ∀ W, Below w2.heap.size w2 W → Tells (3 - 1) Tryd.prog 93 #[.pointer (some ⟨w1.heap.size, 0, none⟩), .pointer (some ⟨w1.heap.size + 1, 0, none⟩)] (fun k => #[.int .i64 (k : Int), .int .u64 (ws.getD k 0)]) 80 (fun b => b = w1.heap.size ∨ b = w1.heap.size + 1) W := by
    intro W hb
    rw [hws]
    exact schedTellsw (3 - 1) w1.heap.size (w1.heap.size + 1) rb a c xs W (hp2.kept hb) (hq2.kept hb) (hx2.below hb)
  have T0 : ∀ W g', Below w2.heap.size w2 W → W.heap.size = w2.heap.size + 2 → W.heap.size ≤ g' → Wk w w2.heap.size ws 0 g' W := fun W g' hb hz hle => ⟨by omega, by omega, hB2.trans (hb.mono hB2.size), .slice none 0 0, hX2.kept hb, by simpa [halves] using World.ownsRow_nil _ _ _ _, by simp [Value.ownBlock]⟩
  have HWS : Hid _ := hws
  clear hws hp2 hq2 hx2 hX2
  gi_wp2
  refine range_tells (n := 3) (gf := 93) (lb := #[.pointer (some ⟨w1.heap.size, 0, none⟩), .pointer (some ⟨w1.heap.size + 1, 0, none⟩)]) rfl (enters_of Tryd.func93 (by kernel_rfl) rfl)
    (fun b hb => by rw [hs2]; omega) HT (fun _ => rfl) (Wk w w2.heap.size ws) (Wk.step (by omega)) (Wk.put (by omega)) T0
    (fun k => { tmps := #[.slice a 128 c, undef, .slice none 0 0, .bool false, .pointer (some ⟨w.heap.size, 0, none⟩), undef, .int .u64 (ws.getD k 0), undef, undef, .slice a 128 c, .int .i64 128, .bool false, .slice a 128 c, rulesVw rb, .func (.func 93) #[] #[.pointer (some ⟨w1.heap.size, 0, none⟩), .pointer (some ⟨w1.heap.size + 1, 0, none⟩)], .int .i64 (k : Int), .int .u64 (ws.getD k 0), undef, undef, undef, undef, undef, undef, undef, undef, undef, undef, undef], defers := [] }) ?assign ?body ?done
  case assign =>
    intro l k W R _ hR
    generalize ws.getD k 0 = x at hR ⊢
    gi_wp2
    exact hR
  case body =>
    clear HT T0
    intro l k g' W hk hg1 hg2 hg3 hz hgl WK
    obtain ⟨x, hxx⟩ : ∃ x, x = ws.getD k 0 := ⟨_, rfl⟩
    obtain ⟨hx0, hx1⟩ : 0 ≤ x ∧ x < 18446744073709551616 := by rw [hxx]; exact hww _ (getD_memW (by omega))
    have hsn := tksnw ws k (by omega)
    rw [← hxx] at hsn
    have HN : Hid (halves (ws.take (k + 1)) = halves (ws.take k) ++ [x / 4294967296, x % 4294967296]) := halves_snoc hsn
    rw [← hxx]
    clear hxx hsn
    obtain ⟨v, hb, ho, hne⟩ := WK.bx
    have hfr := WK.fr
    have hgS := WK.gS
    have hbc : W.cell? ⟨w.heap.size, 0, none⟩ = some v := hb.cell 0
    clear WK
    gi_wp2
    refine ⟨trivial, (CallsIn.inRound l (callsIn_wide.2 (halvesC x hx0 hx1 _))).mono ?_⟩
    rintro e w3 ⟨rfl, hw3⟩
    rw [hw3]
    clear hw3 w3
    have hwsz := hfr.size
    have hvb : ∀ j, v.ownBlock = some j → w2.heap.size + 2 ≤ j := fun j e => (ho.lt j e).1
    gi_wp2_with (gi_at_builtin; refine appendLiesIn _ rfl _ _ 25 rfl (w2.heap.size + 2) 3 i0 (.int .i64 0) 1 8 Tryd.underlying25 hi hz0 hz1 hz2 rfl (by omega) v (2 * k) (I64 (halves (ws.take k))) rfl (ho.alloc _) ⟨W.heap.size, 0, none⟩ 2 2 (I64 [x / 4294967296, x % 4294967296]) rfl rfl (World.news_of_block (cs := #[.int .i64 (x / 4294967296), .int .i64 (x % 4294967296)]) (t := 3) (fr := (0, 0)) (heap_alloc_new W _)) (by simp [Value.oneCell']) (by omega) (by unfold maxLen; omega) (by omega) (by simp; omega) ?_; intro g4 cap4 w4 ho4 hg4 hat4; have hb4 : Arr w4 w.heap.size 25 [v] := ((grown_allocW hg4).block _ hb.lt (fun e => by have := hvb _ e.symm; omega)).trans hb; have hc4 : w4.cell? ⟨w.heap.size, 0, none⟩ = some v := hb4.cell 0; have hf4 := hb4.frozen 0)
    exact Wk.next (by omega) hgS hgl hz hfr hb ho hne HN.out ho4 hg4 hat4 _ (fun b h => by omega)
  case done =>
    clear HT T0
    intro g' W WK hD
    obtain ⟨v, hb, ho, hne⟩ := WK.bx
    have hfr := WK.fr
    have hbc : W.cell? ⟨w.heap.size, 0, none⟩ = some v := hb.cell 0
    rw [List.take_of_length_le (show ws.length ≤ 80 by omega), HWS.out] at ho
    clear WK hb
    gi_wp2
    refine ⟨by simp, .inl ⟨_, _, rfl, run_takeDeferred hD, ?_⟩⟩
    refine ⟨_, results_tmp2 rfl _ _ _, v, rfl, own_base (ho.kept (grownBy_putObj' _ _ _) (.inr fun e => ?_)) (by omega), hfr.grown (grownBy_putObj' _ _ _) hfr.size (fun j e => by cases e; omega)⟩
    have := (ho.lt _ e).1
    omega

theorem implWide (a : Option Addr) (n c : Nat) (xs : List Int) (w : World) (hx : Bs w a n c xs) (ht : Tabw w) :
    Calls Tryd.prog 27 #[.slice a n c] w fun e w' => ∃ v, e = .returned (.tuple #[v, .bool (decide (xs.length = 128))]) ∧ w'.ownsRow w.heap.size 3 1 v (wideOf xs).length (I64 (wideOf xs)) ∧ Below w.heap.size w w' := by
  have hxl := hx.2.1
  by_cases hn : n = 128
  · subst hn
    have e1 : wideOf xs = halves (schedW xs 80) := by unfold wideOf; rw [if_pos hxl]
    have e2 : (halves (schedW xs 80)).length = 160 := by rw [halves_len, schedW_len]
    rw [e1, e2, show decide (xs.length = 128) = true by simp [hxl]]
    exact implWide128 a c xs w hx ht
  · have e1 : wideOf xs = [] := by unfold wideOf; rw [if_neg (by omega)]
    rw [e1, show decide (xs.length = 128) = false by simp; omega]
    have hn' : ¬ ((n : Int) = 128) := by omega
    clear hx ht hxl e1
    go_enter Tryd.func27, Tryd.ntmps27
    go_wp2
    go_ret2
    exact ⟨_, rfl, World.ownsRow_nil _ _ _ _, Below.refl _ _⟩
end Go.Proofs.YtgapfkiceolceaaDoor

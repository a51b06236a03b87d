/-
  What is proved here: the contracts of the program's shaSchedule and of its method takeBlock at words of 32 bits: eight words behind a pointer become what the standard makes of them and of a block of 64 bytes; nothing else that was there turns; plain facts on parts of a slice of bytes, and on a slice that lies apart from a block that may turn; no program is spoken of, no condition; plain mathematics: eight words that go through blocks of 64 bytes; no condition; the contract of the program's method takeBlocks at words of 32 bits: the eight words behind a pointer go through all whole blocks of a slice of bytes that lies elsewhere, and the rest is told.
-/
import Derived.Test.YtofflhhlacdgfaaDoorJM9
import Derived.Test.YtofflhhlacdgfaaDoorJM1
import Derived.Laws.Rows
import Derived.Test.YtofflhhlacdgfaaDoorJM8
import Derived.Deep.RegionHeld3
namespace Go.Proofs.YtofflhhlacdgfaaDoor
open Go.RowKit Go.Shelf
set_option maxRecDepth 100000
attribute [local go_sem] Oper.semAt_some

theorem schedFn (a : Option Addr) (c rb : Nat) (w : World) :
    Calls Tryd.prog 142 #[.slice a 64 c, rulesVn rb] w fun e w' => e = .returned (.func (.func 151) #[] #[.pointer (some ⟨w.heap.size, 0, none⟩), .pointer (some ⟨w.heap.size + 1, 0, none⟩)]) ∧
      Arr w' w.heap.size 22 [.slice a 64 c] ∧ Arr w' (w.heap.size + 1) 142 [.int .i64 2, .int .i64 13, .int .i64 22, .int .i64 6, .int .i64 11, .int .i64 25, .int .i64 7, .int .i64 18, .int .i64 3, .int .i64 17, .int .i64 19, .int .i64 10, .slice (some ⟨rb, 0, none⟩) 64 64] ∧ w'.heap.size = w.heap.size + 2 ∧ Below w.heap.size w w' := by
  obtain ⟨W, hW⟩ : ∃ W, W = (w.alloc (.cells #[.slice a 64 c] 22)).alloc (.cells #[.int .i64 2, .int .i64 13, .int .i64 22, .int .i64 6, .int .i64 11, .int .i64 25, .int .i64 7, .int .i64 18, .int .i64 3, .int .i64 17, .int .i64 19, .int .i64 10, .slice (some ⟨rb, 0, none⟩) 64 64] 142) := ⟨_, rfl⟩
  have h1 : Arr W w.heap.size 22 [.slice a 64 c] := by rw [hW]; exact (Arr.new w [.slice a 64 c] _).alloc _
  have h2 : Arr W (w.heap.size + 1) 142 [.int .i64 2, .int .i64 13, .int .i64 22, .int .i64 6, .int .i64 11, .int .i64 25, .int .i64 7, .int .i64 18, .int .i64 3, .int .i64 17, .int .i64 19, .int .i64 10, .slice (some ⟨rb, 0, none⟩) 64 64] := by
    rw [hW]
    have := Arr.new (w.alloc (.cells #[.slice a 64 c] 22)) [.int .i64 2, .int .i64 13, .int .i64 22, .int .i64 6, .int .i64 11, .int .i64 25, .int .i64 7, .int .i64 18, .int .i64 3, .int .i64 17, .int .i64 19, .int .i64 10, .slice (some ⟨rb, 0, none⟩) 64 64] 142
    rw [World.size_alloc] at this
    exact this
  have h3 : W.heap.size = w.heap.size + 2 := by rw [hW]; simp
  have hB : Below w.heap.size w W := by rw [hW]; exact ((Below.refl _ _).alloc (Nat.le_refl _) _).alloc (by simp) _
  go_enter Tryd.func142, Tryd.ntmps142
  go_wp2
  rw [← hW]
  go_ret
  exact ⟨rfl, h1, h2, h3, hB⟩

theorem stp8_md (a b c d e f g h kw : Int) : stp8 a b c d e f g h (kw % 4294967296) = stp8 a b c d e f g h kw := by
  unfold stp8
  rw [show (h + bS1 e + cho e f g + kw % 4294967296 + (bS0 a + maj a b c)) % 4294967296 = (h + bS1 e + cho e f g + kw + (bS0 a + maj a b c)) % 4294967296 by omega,
    show (d + (h + bS1 e + cho e f g + kw % 4294967296)) % 4294967296 = (d + (h + bS1 e + cho e f g + kw)) % 4294967296 by omega]

/-- The first k words added up. -/
def zqn (hs st : List Int) (k : Nat) : List Int := (List.zipWith (fun x y => (x + y) % 4294967296) hs st).take k ++ hs.drop k
theorem zqn_len (hs st : List Int) (h : hs.length = 8) (h2 : st.length = 8) (k : Nat) (hk : k ≤ 8) : (zqn hs st k).length = 8 := by simp [zqn, h, h2]; omega
theorem zqn_get (hs st : List Int) (h : hs.length = 8) (h2 : st.length = 8) (k : Nat) (hk : k < 8) : (zqn hs st k).getD k 0 = hs.getD k 0 := by
  simp [zqn, List.getD, List.getElem?_append_right, h, h2, show min k 8 = k by omega]
theorem tksnn (l : List Int) (k : Nat) (h : k < l.length) : l.take (k + 1) = l.take k ++ [l.getD k 0] := by
  rw [List.take_add_one, List.getD, List.getElem?_eq_getElem h]; rfl
theorem zqn_set (hs st : List Int) (h : hs.length = 8) (h2 : st.length = 8) (k : Nat) (hk : k < 8) (v : Int) (hv : v = (hs.getD k 0 + st.getD k 0) % 4294967296) : (U32 (zqn hs st k)).set k (.int .u32 v) = U32 (zqn hs st (k + 1)) := by
  subst hv
  have e : hs.drop k = hs.getD k 0 :: hs.drop (k + 1) := by
    rw [List.drop_eq_getElem_cons (by omega)]; simp [show k < hs.length by omega]
  have hz : (List.zipWith (fun x y => (x + y) % 4294967296) hs st).length = 8 := by simp [h, h2]
  have e2 : (List.zipWith (fun x y => (x + y) % 4294967296) hs st).take (k + 1) = (List.zipWith (fun x y => (x + y) % 4294967296) hs st).take k ++ [(hs.getD k 0 + st.getD k 0) % 4294967296] := by
    rw [tksnn _ _ (by omega)]
    simp [List.getD, List.getElem?_zipWith, show k < hs.length by omega, show k < st.length by omega]
  unfold zqn
  rw [e, e2]
  simp only [U32, List.map_append, List.map_cons]
  rw [List.set_append_right _ _ (by simp; omega)]
  simp [h, h2, show min k 8 = k by omega]
theorem infoCn : (Tryd.prog.info? 132).map (·.size) = some 1 := by kernel_rfl

/-- Where the loop over the schedule stands: k rounds are done; the iterator's own row lies in block g. -/
structure Tkn (w : World) (S rb : Nat) (hs ws : List Int) (k g : Nat) (W : World) : Prop where
  gS : S ≤ g
  sz : S ≤ W.heap.size
  fr : Below w.heap.size w W
  ru : Arr W w.heap.size 142 [.int .i64 2, .int .i64 13, .int .i64 22, .int .i64 6, .int .i64 11, .int .i64 25, .int .i64 7, .int .i64 18, .int .i64 3, .int .i64 17, .int .i64 19, .int .i64 10, .slice (some ⟨rb, 0, none⟩) 64 64]
  ar : Arr W (w.heap.size + 1) 134 (U32 (rnds ws KS hs k))
theorem Tkn.step {w : World} {S rb : Nat} {hs ws : List Int} (hS : w.heap.size + 2 ≤ S) (k g g' : Nat) (A B : World) (_ : S ≤ g) (h : Tkn w S rb hs ws k g A) (hg : A.grownBy B (some g)) (hgg : g' = g ∨ A.heap.size ≤ g') : Tkn w S rb hs ws k g' B := by
  have h1 := h.gS
  have h2 := h.sz
  exact ⟨by omega, Nat.le_trans h2 hg.size, h.fr.grown hg h.fr.size (fun j e => by cases e; omega), (hg.block _ h.ru.lt (fun e => by cases e; omega)).trans h.ru, (hg.block _ h.ar.lt (fun e => by cases e; omega)).trans h.ar⟩
theorem Tkn.put {w : World} {S rb : Nat} {hs ws : List Int} (hS : w.heap.size + 2 ≤ S) (k g : Nat) (A : World) (o : Obj) (h : Tkn w S rb hs ws k g A) : Tkn w S rb hs ws k g (A.putObj (S + 1) o) := by
  have h2 := h.sz
  exact ⟨h.gS, by simpa using h2, h.fr.grown (grownBy_putObj' _ _ _) h.fr.size (fun j e => by cases e; omega), (World.putObj_heap_other (by omega)).trans h.ru, (World.putObj_heap_other (by omega)).trans h.ar⟩

set_option maxHeartbeats 2000000 in
theorem takeBlockCn (g : Nat) (hs : List Int) (a : Option Addr) (c rb : Nat) (xs : List Int) (w : World) (hA : Arr w g 134 (U32 hs)) (hl : hs.length = 8) (hx : Bs w a 64 c xs) (hrb : Arr w rb 158 (U32 KS)) :
    Calls Tryd.prog 132 #[.pointer (some ⟨g, 0, none⟩), .slice a 64 c, rulesVn rb] w fun e w' => e = .returned (.tuple #[]) ∧ Arr w' g 134 (U32 (blk hs xs)) ∧ w.grownBy w' (some g) := by
  have hgs := hA.lt
  obtain ⟨l0, l1, l2, l3, l4, l5, l6, l7, rfl⟩ := list8 hl
  have c0 := hA.u32 0 (by simp)
  have c1 := hA.u32 1 (by simp)
  have c2 := hA.u32 2 (by simp)
  have c3 := hA.u32 3 (by simp)
  have c4 := hA.u32 4 (by simp)
  have c5 := hA.u32 5 (by simp)
  have c6 := hA.u32 6 (by simp)
  have c7 := hA.u32 7 (by simp)
  simp at c0 c1 c2 c3 c4 c5 c6 c7
  refine (callsIn_wide (n := 3)).1 ?_
  refine callsIn_of_wp_marks Tryd.func132 rfl trivial ?_ rfl
  simp only [Tryd.ntmps132, List.size_toArray, List.length_cons, List.length_nil, Nat.reduceAdd, Nat.reduceSub, Array.replicate_succ, Array.replicate_zero, List.push_toArray, List.append_toArray, List.nil_append, List.cons_append]
  obtain ⟨W0, hW0⟩ : ∃ W0, W0 = (w.alloc (.cells #[.int .i64 2, .int .i64 13, .int .i64 22, .int .i64 6, .int .i64 11, .int .i64 25, .int .i64 7, .int .i64 18, .int .i64 3, .int .i64 17, .int .i64 19, .int .i64 10, .slice (some ⟨rb, 0, none⟩) 64 64] 142)).alloc (.cells #[.int .u32 l0, .int .u32 l1, .int .u32 l2, .int .u32 l3, .int .u32 l4, .int .u32 l5, .int .u32 l6, .int .u32 l7] 134) := ⟨_, rfl⟩
  have hS0 : W0.heap.size = w.heap.size + 2 := by rw [hW0]; simp
  have hB0 : Below w.heap.size w W0 := by rw [hW0]; exact ((Below.refl _ _).alloc (Nat.le_refl _) _).alloc (by simp) _
  have hR0 : Arr W0 w.heap.size 142 [.int .i64 2, .int .i64 13, .int .i64 22, .int .i64 6, .int .i64 11, .int .i64 25, .int .i64 7, .int .i64 18, .int .i64 3, .int .i64 17, .int .i64 19, .int .i64 10, .slice (some ⟨rb, 0, none⟩) 64 64] := by rw [hW0]; exact (Arr.new w [.int .i64 2, .int .i64 13, .int .i64 22, .int .i64 6, .int .i64 11, .int .i64 25, .int .i64 7, .int .i64 18, .int .i64 3, .int .i64 17, .int .i64 19, .int .i64 10, .slice (some ⟨rb, 0, none⟩) 64 64] _).alloc _
  have hA0 : Arr W0 (w.heap.size + 1) 134 (U32 [l0, l1, l2, l3, l4, l5, l6, l7]) := by
    rw [hW0]
    have := Arr.new (w.alloc (.cells #[.int .i64 2, .int .i64 13, .int .i64 22, .int .i64 6, .int .i64 11, .int .i64 25, .int .i64 7, .int .i64 18, .int .i64 3, .int .i64 17, .int .i64 19, .int .i64 10, .slice (some ⟨rb, 0, none⟩) 64 64] 142)) (U32 [l0, l1, l2, l3, l4, l5, l6, l7]) 134
    rw [World.size_alloc] at this
    exact this
  gi_wp2
  rw [← hW0]
  refine ⟨trivial, (callsIn_wide.2 (schedFn a c rb W0)).mono ?_⟩
  rintro e w1 ⟨rfl, hp1, hq1, hs1, hb1⟩
  rw [hS0] at hp1 hq1 hs1
  have hB1 := hB0.trans (hb1.mono hB0.size)
  have hR1 := hR0.kept hb1
  have hA1 := hA0.kept hb1
  have hx1 := hx.below hB1
  clear hB0 hR0 hA0 hb1 hW0 c0 c1 c2 c3 c4 c5 c6 c7 hx
  obtain ⟨hs, hhs⟩ : ∃ hs, hs = [l0, l1, l2, l3, l4, l5, l6, l7] := ⟨_, rfl⟩
  obtain ⟨ws, hws⟩ : ∃ ws, ws = schedL xs 64 := ⟨_, rfl⟩
  have hwl : ws.length = 64 := by rw [hws]; exact schedL_len xs 64
  rw [← hhs] at hA hA1 hl
  have HT : ∀ W, Below w1.heap.size w1 W → Tells (3 - 1) Tryd.prog 151 #[.pointer (some ⟨w.heap.size + 2, 0, none⟩), .pointer (some ⟨w.heap.size + 2 + 1, 0, none⟩)] (fun k => #[.int .i64 (k : Int), .int .u32 (ws.getD k 0)]) 64 (fun b => b = w.heap.size + 2 ∨ b = w.heap.size + 2 + 1) W := by
    intro W hb
    rw [hws]
    exact schedTellsn (3 - 1) (w.heap.size + 2) (w.heap.size + 2 + 1) rb a c xs W (hp1.kept hb) (hq1.kept hb) (hx1.below hb)
  have T0 : ∀ W g', Below w1.heap.size w1 W → W.heap.size = w1.heap.size + 2 → W.heap.size ≤ g' → Tkn w w1.heap.size rb hs ws 0 g' W := fun W g' hb hz hle => ⟨by omega, by omega, hB1.trans (hb.mono hB1.size), hR1.kept hb, hA1.kept hb⟩
  have HHS : Hid _ := hhs
  have HWS : Hid _ := hws
  clear hhs hws hp1 hq1 hx1 hR1 hA1
  gi_wp2
  refine range_tells (n := 3) (gf := 151) (lb := #[.pointer (some ⟨w.heap.size + 2, 0, none⟩), .pointer (some ⟨w.heap.size + 2 + 1, 0, none⟩)]) rfl (enters_of Tryd.func151 (by kernel_rfl) rfl)
    (fun b hb => by rw [hs1]; omega) HT (fun _ => rfl) (Tkn w w1.heap.size rb hs ws) (Tkn.step (by omega)) (Tkn.put (by omega)) T0
    (fun k => { tmps := #[.pointer (some ⟨g, 0, none⟩), .slice a 64 c, rulesVn rb, undef, undef, .pointer (some ⟨w.heap.size, 0, none⟩), .pointer (some ⟨w.heap.size + 1, 0, none⟩), .int .i64 (k : Int), .int .u32 (ws.getD k 0), undef, undef, .pointer (some ⟨g, 0, none⟩), .pointer (some ⟨g, 0, none⟩), .agg #[.int .u32 l0, .int .u32 l1, .int .u32 l2, .int .u32 l3, .int .u32 l4, .int .u32 l5, .int .u32 l6, .int .u32 l7], .slice a 64 c, .agg #[.int .i64 2, .int .i64 13, .int .i64 22, .int .i64 6, .int .i64 11, .int .i64 25, .int .i64 7, .int .i64 18, .int .i64 3, .int .i64 17, .int .i64 19, .int .i64 10, .slice (some ⟨rb, 0, none⟩) 64 64], .func (.func 151) #[] #[.pointer (some ⟨w.heap.size + 2, 0, none⟩), .pointer (some ⟨w.heap.size + 2 + 1, 0, none⟩)], .int .i64 (k : Int), .int .u32 (ws.getD k 0), undef, undef, undef, undef, undef, undef, undef, undef, undef, undef, undef, undef, undef, undef, undef, undef, undef, undef, undef, undef, undef, undef, undef, undef, undef], defers := [] }) ?assign ?body ?done
  case assign =>
    intro l k W R _ hR
    generalize ws.getD k 0 = x at hR ⊢
    gi_wp2
    exact hR
  case body =>
    clear HT T0
    intro l k g' W hk hg1 hg2 hg3 hz hgl TK
    obtain ⟨x, hxx⟩ : ∃ x, x = ws.getD k 0 := ⟨_, rfl⟩
    obtain ⟨y, hyy⟩ : ∃ y, y = KS.getD k 0 := ⟨_, rfl⟩
    have hr : rnds ws KS hs (k + 1) = stp (rnds ws KS hs k) (x + y) := by rw [hxx, hyy]; rfl
    obtain ⟨a0, a1, a2, a3, a4, a5, a6, a7, h8e⟩ := list8 (rnds_len ws KS hl k)
    have hr' : rnds ws KS hs (k + 1) = stp8 a0 a1 a2 a3 a4 a5 a6 a7 ((x + y) % 4294967296) := by rw [hr, h8e, stp8_md]; rfl
    have hck : W.cell? ⟨rb, k, none⟩ = some (.int .u32 y) := by
      rw [hyy]
      exact (hrb.kept TK.fr).u32 k (by rw [KS_len]; exact hk)
    have hr12 : W.cell? ⟨w.heap.size, 12, none⟩ = some (.slice (some ⟨rb, 0, none⟩) 64 64) := TK.ru.cell 12
    have u0 : W.cell? ⟨w.heap.size, 0, none⟩ = some (.int .i64 2) := TK.ru.cell 0
    have u1 : W.cell? ⟨w.heap.size, 1, none⟩ = some (.int .i64 13) := TK.ru.cell 1
    have u2 : W.cell? ⟨w.heap.size, 2, none⟩ = some (.int .i64 22) := TK.ru.cell 2
    have u3 : W.cell? ⟨w.heap.size, 3, none⟩ = some (.int .i64 6) := TK.ru.cell 3
    have u4 : W.cell? ⟨w.heap.size, 4, none⟩ = some (.int .i64 11) := TK.ru.cell 4
    have u5 : W.cell? ⟨w.heap.size, 5, none⟩ = some (.int .i64 25) := TK.ru.cell 5
    have u6 : W.cell? ⟨w.heap.size, 6, none⟩ = some (.int .i64 7) := TK.ru.cell 6
    have u7 : W.cell? ⟨w.heap.size, 7, none⟩ = some (.int .i64 18) := TK.ru.cell 7
    have u8 : W.cell? ⟨w.heap.size, 8, none⟩ = some (.int .i64 3) := TK.ru.cell 8
    have u9 : W.cell? ⟨w.heap.size, 9, none⟩ = some (.int .i64 17) := TK.ru.cell 9
    have u10 : W.cell? ⟨w.heap.size, 10, none⟩ = some (.int .i64 19) := TK.ru.cell 10
    have u11 : W.cell? ⟨w.heap.size, 11, none⟩ = some (.int .i64 10) := TK.ru.cell 11
    have hAr := TK.ar
    rw [h8e] at hAr
    have HR : Hid _ := hr'
    rw [← hxx]
    clear hr hr' h8e hxx hyy
    have hkR : (k : Int) < 64 := by omega
    have hmx : Tryd.prog.follows .mixedOrders = true := by kernel_rfl
    have hwr : IntKind.u32.wrap (x + y) = (x + y) % 4294967296 := IntKind.wrap_u32 _
    have FIN : ∀ w2, Arr w2 (w.heap.size + 1) 134 (U32 (stp8 a0 a1 a2 a3 a4 a5 a6 a7 ((x + y) % 4294967296))) → W.drew.grownBy w2 (some (w.heap.size + 1)) →
        Tkn w w1.heap.size rb hs ws (k + 1) g' w2 ∧ Same (fun b => b = g' ∨ (b = w.heap.size + 2 ∨ b = w.heap.size + 2 + 1) ∨ b = w1.heap.size ∨ b = w1.heap.size + 1) W w2 := by
      intro w2 h5 hg5
      have hg6 : W.grownBy w2 (some (w.heap.size + 1)) := ⟨hg5.os, hg5.tape, hg5.output, hg5.size, hg5.block⟩
      have e1 := TK.gS
      have e2 := TK.sz
      refine ⟨⟨TK.gS, Nat.le_trans TK.sz hg6.size, TK.fr.grown hg6 TK.fr.size (fun j e => by cases e; omega), (hg6.block _ TK.ru.lt (fun e => by injection e with e; omega)).trans TK.ru, by rw [HR.out]; exact h5⟩, Same.of_grown hg6 (fun b hb e => by cases e; omega)⟩
    gi_wp2
    refine region_round l hmx rfl (by kernel_rfl) ?_
    refine wpAnyIn_take (i := 0) (v := ?_) rfl rfl (by kernel_rfl) (by kernel_rfl) (by kernel_rfl) (fun _ _ _ h => h) ⟨Or.inl ⟨by rfl, ?hy⟩, fun _ => rfl⟩ ?_
    case hy => (intro Z; go_simp; try with_reducible rfl)
    refine wpAnyIn_take (i := 1) (v := ?_) rfl rfl (by kernel_rfl) (by kernel_rfl) (by kernel_rfl) (fun _ _ _ h => h) ⟨Or.inl ⟨by rfl, ?hy⟩, fun _ => rfl⟩ ?_
    case hy => (intro Z; go_simp; try with_reducible rfl)
    refine wpAnyIn_take (i := 3) (v := ?_) rfl rfl (by kernel_rfl) (by kernel_rfl) (by kernel_rfl) (fun _ _ _ h => h) ⟨Or.inl ⟨by rfl, ?hy⟩, fun _ => rfl⟩ ?_
    case hy => (intro Z; go_simp; try with_reducible rfl)
    refine wpAnyIn_take (i := 7) (v := ?_) rfl rfl (by kernel_rfl) (by kernel_rfl) (by kernel_rfl) (fun _ _ _ h => h) ⟨Or.inl ⟨by rfl, ?hy⟩, fun _ => rfl⟩ ?_
    case hy => (intro Z; go_simp; try with_reducible rfl)
    refine wpAnyIn_ready (rs := [2, 8]) (by kernel_rfl) (by simp) ?_
    refine AllReadyIn.cons rfl (fun K hK => ?_) (AllReadyIn.cons rfl (fun K hK => ?_) AllReadyIn.nil)
    · go_simp
      refine hK _ _ ?_
      clear hK K
      refine wpAnyIn_take (i := 4) (v := ?_) rfl rfl (by kernel_rfl) (by kernel_rfl) (by kernel_rfl) (fun _ _ _ h => h) ⟨Or.inl ⟨by rfl, ?hy⟩, fun _ => rfl⟩ ?_
      case hy => (intro Z; go_simp; try with_reducible rfl)
      refine wpAnyIn_ready (rs := [5, 8]) (by kernel_rfl) (by simp) ?_
      refine AllReadyIn.cons rfl (fun K hK => ?_) (AllReadyIn.cons rfl (fun K hK => ?_) AllReadyIn.nil)
      · go_simp
        refine hK _ _ ?_
        clear hK K
        refine wpAnyIn_take (i := 6) (v := ?_) rfl rfl (by kernel_rfl) (by kernel_rfl) (by kernel_rfl) (fun _ _ _ h => h) ⟨Or.inl ⟨by rfl, ?hy⟩, fun _ => rfl⟩ ?_
        case hy => (intro Z; go_simp; try with_reducible rfl)
        refine wpAnyIn_ready (rs := [8]) (by kernel_rfl) (by simp) ?_
        refine AllReadyIn.cons rfl (fun K hK => ?_) AllReadyIn.nil
        go_simp
        refine hK _ _ ?_
        clear hK K
        refine wpAnyIn_ready (rs := [9]) (by kernel_rfl) (by simp) ?_
        refine AllReadyIn.cons rfl (fun K hK => ?_) AllReadyIn.nil
        go_simp
        refine ⟨trivial, (callsIn_wide.2 (roundCn (w.heap.size + 1) a0 a1 a2 a3 a4 a5 a6 a7 _ _ hAr.drew)).mono ?_⟩
        rintro e w2 ⟨rfl, h5, hg5⟩
        refine hK _ _ ?_
        clear hK K
        refine wpAnyIn_done (by kernel_rfl) ?_ _
        exact FIN w2 h5 hg5
      · go_simp
        refine hK _ _ ?_
        clear hK K
        refine wpAnyIn_ready (rs := [5]) (by kernel_rfl) (by simp) ?_
        refine AllReadyIn.cons rfl (fun K hK => ?_) AllReadyIn.nil
        go_simp
        refine hK _ _ ?_
        clear hK K
        refine wpAnyIn_take (i := 6) (v := ?_) rfl rfl (by kernel_rfl) (by kernel_rfl) (by kernel_rfl) (fun _ _ _ h => h) ⟨Or.inl ⟨by rfl, ?hy⟩, fun _ => rfl⟩ ?_
        case hy => (intro Z; go_simp; try with_reducible rfl)
        refine wpAnyIn_ready (rs := [9]) (by kernel_rfl) (by simp) ?_
        refine AllReadyIn.cons rfl (fun K hK => ?_) AllReadyIn.nil
        go_simp
        refine ⟨trivial, (callsIn_wide.2 (roundCn (w.heap.size + 1) a0 a1 a2 a3 a4 a5 a6 a7 _ _ hAr.drew)).mono ?_⟩
        rintro e w2 ⟨rfl, h5, hg5⟩
        refine hK _ _ ?_
        clear hK K
        refine wpAnyIn_done (by kernel_rfl) ?_ _
        exact FIN w2 h5 hg5
    · go_simp
      refine hK _ _ ?_
      clear hK K
      refine wpAnyIn_ready (rs := [2]) (by kernel_rfl) (by simp) ?_
      refine AllReadyIn.cons rfl (fun K hK => ?_) AllReadyIn.nil
      go_simp
      refine hK _ _ ?_
      clear hK K
      refine wpAnyIn_take (i := 4) (v := ?_) rfl rfl (by kernel_rfl) (by kernel_rfl) (by kernel_rfl) (fun _ _ _ h => h) ⟨Or.inl ⟨by rfl, ?hy⟩, fun _ => rfl⟩ ?_
      case hy => (intro Z; go_simp; try with_reducible rfl)
      refine wpAnyIn_ready (rs := [5]) (by kernel_rfl) (by simp) ?_
      refine AllReadyIn.cons rfl (fun K hK => ?_) AllReadyIn.nil
      go_simp
      refine hK _ _ ?_
      clear hK K
      refine wpAnyIn_take (i := 6) (v := ?_) rfl rfl (by kernel_rfl) (by kernel_rfl) (by kernel_rfl) (fun _ _ _ h => h) ⟨Or.inl ⟨by rfl, ?hy⟩, fun _ => rfl⟩ ?_
      case hy => (intro Z; go_simp; try with_reducible rfl)
      refine wpAnyIn_ready (rs := [9]) (by kernel_rfl) (by simp) ?_
      refine AllReadyIn.cons rfl (fun K hK => ?_) AllReadyIn.nil
      go_simp
      refine ⟨trivial, (callsIn_wide.2 (roundCn (w.heap.size + 1) a0 a1 a2 a3 a4 a5 a6 a7 _ _ hAr.drew)).mono ?_⟩
      rintro e w2 ⟨rfl, h5, hg5⟩
      refine hK _ _ ?_
      clear hK K
      refine wpAnyIn_done (by kernel_rfl) ?_ _
      exact FIN w2 h5 hg5
  case done =>
    clear HT T0
    intro g' W TK hD
    have hst := rnds_len ws KS hl 64
    obtain ⟨st, hste⟩ : ∃ st, st = rnds ws KS hs 64 := ⟨_, rfl⟩
    have HK : Hid (blk hs xs = zqn hs st 8) := by
      unfold Hid zqn blk
      rw [hste, HWS.out]
      have : (List.zipWith (fun x y => (x + y) % 4294967296) hs (rnds (schedL xs 64) KS hs 64)).length = 8 := by simp [rnds_len _ _ hl, hl]
      rw [List.take_of_length_le (by omega), List.drop_eq_nil_of_le (by omega)]
      simp
    rw [← hste] at hst
    have hA2 : Arr W g 134 (U32 (zqn hs st 0)) := by
      have : zqn hs st 0 = hs := by simp [zqn]
      rw [this]; exact hA.kept TK.fr
    have hG := grown_of_below TK.fr (some g)
    have hgD : w1.heap.size ≠ g := by omega
    have hAs := TK.ar
    rw [← hste] at hAs
    have hwsz := TK.fr.size
    obtain ⟨a0, a1, a2, a3, a4, a5, a6, a7, hse⟩ := list8 hst
    have ix : ∀ (k : Nat), k < 8 → ∀ w, (Instr.index 134 (.agg #[.int .u32 a0, .int .u32 a1, .int .u32 a2, .int .u32 a3, .int .u32 a4, .int .u32 a5, .int .u32 a6, .int .u32 a7]) (.int .i64 (k : Int))).run Tryd.prog w = .ok (.int .u32 (st.getD k 0)) w := by
      intro k hk w
      have := index_arr Tryd.underlying134 Tryd.underlying132 infoCn st hst k hk w
      rw [hse] at this ⊢
      exact this
    have c0 : W.cell? ⟨w.heap.size + 1, 0, none⟩ = some (.int .u32 a0) := (hse ▸ hAs).cell 0
    have c1 : W.cell? ⟨w.heap.size + 1, 1, none⟩ = some (.int .u32 a1) := (hse ▸ hAs).cell 1
    have c2 : W.cell? ⟨w.heap.size + 1, 2, none⟩ = some (.int .u32 a2) := (hse ▸ hAs).cell 2
    have c3 : W.cell? ⟨w.heap.size + 1, 3, none⟩ = some (.int .u32 a3) := (hse ▸ hAs).cell 3
    have c4 : W.cell? ⟨w.heap.size + 1, 4, none⟩ = some (.int .u32 a4) := (hse ▸ hAs).cell 4
    have c5 : W.cell? ⟨w.heap.size + 1, 5, none⟩ = some (.int .u32 a5) := (hse ▸ hAs).cell 5
    have c6 : W.cell? ⟨w.heap.size + 1, 6, none⟩ = some (.int .u32 a6) := (hse ▸ hAs).cell 6
    have c7 : W.cell? ⟨w.heap.size + 1, 7, none⟩ = some (.int .u32 a7) := (hse ▸ hAs).cell 7
    have HSE : Hid _ := hse
    clear hse hste TK hAs hA HWS
    gi_wp2
    clear c0 c1 c2 c3 c4 c5 c6 c7
    gi_loopw [30] (fun i wr => ∃ k : Nat, k ≤ 8 ∧ i = .int .i64 k ∧ Arr wr g 134 (U32 (zqn hs st k)) ∧ w.grownBy wr (some g) ∧ wr.heap[w1.heap.size]? = some (.deferred (some [])) ∧ w1.heap.size < wr.heap.size) (fun i _ => 8 - (intOf i).toNat)
    case atStart => exact ⟨0, by omega, rfl, hA2, hG, hD, (Array.getElem?_eq_some_iff.1 hD).1⟩
    case round =>
      clear hA2 hG hD hwsz
      obtain ⟨k, hk, rfl, h4, hG, hD, hDs⟩ := hrel
      by_cases hlt : k < 8
      · have ixk := ix k hlt
        obtain ⟨x, hxx⟩ : ∃ x, x = st.getD k 0 := ⟨_, rfl⟩
        obtain ⟨y, hyy⟩ : ∃ y, y = hs.getD k 0 := ⟨_, rfl⟩
        rw [← hxx] at ixk
        have hck := h4.u32 k (by rw [zqn_len hs st hl hst k hk]; omega)
        rw [zqn_get hs st hl hst k hlt, ← hyy] at hck
        have hfz := h4.frozen k
        have h5 := h4.set k (.int .u32 ((y + x) % 4294967296))
        rw [zqn_set hs st hl hst k hlt _ (by rw [hxx, hyy])] at h5
        have hG5 := grown_set hG k (.int .u32 ((y + x) % 4294967296))
        have hD5 : (wr.setCell ⟨g, k, none⟩ (.int .u32 ((y + x) % 4294967296))).heap[w1.heap.size]? = some (.deferred (some [])) := (heap_setCell_other _ _ _ _ (fun e => hgD e)).trans hD
        have hDs5 : w1.heap.size < (wr.setCell ⟨g, k, none⟩ (.int .u32 ((y + x) % 4294967296))).heap.size := by simpa using hDs
        have H5 : Hid (Arr (wr.setCell ⟨g, k, none⟩ (.int .u32 ((y + x) % 4294967296))).drew g 134 (U32 (zqn hs st (k + 1)))) := h5
        have HG5 : Hid (w.grownBy (wr.setCell ⟨g, k, none⟩ (.int .u32 ((y + x) % 4294967296))).drew (some g)) := grown_drew hG5
        have HD5 : Hid ((wr.setCell ⟨g, k, none⟩ (.int .u32 ((y + x) % 4294967296))).drew.heap[w1.heap.size]? = some (.deferred (some []))) := hD5
        have HDs5 : Hid (w1.heap.size < (wr.setCell ⟨g, k, none⟩ (.int .u32 ((y + x) % 4294967296))).drew.heap.size) := hDs5
        have hwr : IntKind.u32.wrap (y + x) = (y + x) % 4294967296 := IntKind.wrap_u32 _
        clear h5 hG5 hD5 hDs5 h4 hG hD hDs hxx hyy ix
        have hk8 : (k : Int) < 8 := by omega
        have hk0 : (0 : Int) ≤ (k : Int) := by omega
        gi_wp2
        refine wpIn_wide.2 ?_
        go_region
        clear hck hfz ixk
        gi_wp2
        go_roundw
        case rel => exact ⟨k + 1, by omega, by go_num, H5.out, HG5.out, HD5.out, HDs5.out⟩
        case measure => simp [intOf]; omega
      · have hkn : k = 8 := by omega
        subst hkn
        clear hst ix
        gi_wp2
        refine ⟨by simp, .inl ⟨_, _, rfl, run_takeDeferred hD, ?_⟩⟩
        exact ⟨_, results_none rfl _ _ _, rfl, by rw [← HHS.out, HK.out]; exact (World.putObj_heap_other (fun e => hgD e.symm)).trans h4, grown_put hG (by omega) _⟩
end Go.Proofs.YtofflhhlacdgfaaDoor
namespace Go.Proofs.YtofflhhlacdgfaaDoor
open Go.RowKit

/-- The slice's bytes lie in another block. -/
def Off (a : Option Addr) (g : Nat) : Prop := ∀ b o s, a = some ⟨b, o, s⟩ → b ≠ g
theorem Bs.grown {w w' : World} {a : Option Addr} {n c g : Nat} {xs : List Int} (h : Bs w a n c xs) (hg : w.grownBy w' (some g)) (ho : Off a g) : Bs w' a n c xs := by
  obtain ⟨h0, h1, h2, h3, h4⟩ := h
  refine ⟨h0, h1, h2, h3, ?_⟩
  rcases h4 with h4 | ⟨b, o, ha, hlt, hc⟩
  · exact .inl h4
  · exact .inr ⟨b, o, ha, Nat.lt_of_lt_of_le hlt hg.size, fun j hj => (World.cell?_of_block (hg.block b hlt (fun e => ho b o none ha (by cases e; rfl)))).trans (hc j hj)⟩
theorem Bs.take {w : World} {a : Option Addr} {n c m : Nat} {xs : List Int} (h : Bs w a n c xs) (hm : m ≤ n) : Bs w a m c (xs.take m) := by
  obtain ⟨h0, h1, h2, h3, h4⟩ := h
  refine ⟨h0, by simp; omega, by omega, fun x hx => h3 x (List.mem_of_mem_take hx), ?_⟩
  rcases h4 with h4 | ⟨b, o, ha, hlt, hc⟩
  · exact .inl (by omega)
  · refine .inr ⟨b, o, ha, hlt, fun j hj => ?_⟩
    rw [hc j (by omega)]
    simp [List.getD, hj]
theorem Bs.drop {w : World} {b o : Nat} {n c m : Nat} {xs : List Int} (h : Bs w (some ⟨b, o, none⟩) n c xs) (hm : m ≤ n) : Bs w (some ⟨b, o + m, none⟩) (n - m) (c - m) (xs.drop m) := by
  obtain ⟨h0, h1, h2, h3, h4⟩ := h
  refine ⟨(fun h => by cases h), by simp; omega, by omega, fun x hx => h3 x (List.mem_of_mem_drop hx), ?_⟩
  by_cases hz : n - m = 0
  · exact .inl hz
  rcases h4 with h4 | ⟨b', o', ha, hlt, hc⟩
  · exact .inl (by omega)
  · cases ha
    refine .inr ⟨b, o + m, rfl, hlt, fun j hj => ?_⟩
    have := hc (m + j) (by omega)
    rw [show o + m + j = o + (m + j) by omega, this]
    simp [List.getD, List.getElem?_drop]
theorem Bs.none0 {w : World} {b o : Nat} {c : Nat} {xs : List Int} (hx : xs = []) : Bs w (some ⟨b, o, none⟩) 0 c xs := by
  subst hx
  exact ⟨(fun h => by cases h), rfl, Nat.zero_le _, by simp, .inl rfl⟩

theorem off_of_own {W : World} {B e s n c g : Nat} {a : Option Addr} {l : List Value} (h : W.ownsRow B e s (.slice a n c) n l) (hg : g < B) : Off a g := by
  intro b o s' he
  have := h.lt b (by rw [he]; rfl)
  omega
end Go.Proofs.YtofflhhlacdgfaaDoor
namespace Go.Proofs.YtofflhhlacdgfaaDoor
open Go.RowKit

/-- The words behind k blocks. -/
def fld (hs l : List Int) : Nat → List Int
  | 0 => hs
  | k + 1 => blk (fld hs l k) ((l.drop (64 * k)).take 64)
theorem fld_len {hs : List Int} (h : hs.length = 8) (l : List Int) (k : Nat) : (fld hs l k).length = 8 := by
  induction k with
  | zero => exact h
  | succ k ih => exact blk_len ih _
theorem fld_word {hs : List Int} (h : ∀ x ∈ hs, 0 ≤ x ∧ x < 4294967296) (l : List Int) (k : Nat) : ∀ x ∈ fld hs l k, 0 ≤ x ∧ x < 4294967296 := by
  cases k with
  | zero => exact h
  | succ k => exact blk_word _ _
/-- The words behind all whole blocks, and what is left. -/
def allB (hs l : List Int) : List Int := fld hs l (l.length / 64)
def restB (l : List Int) : List Int := l.drop (64 * (l.length / 64))

end Go.Proofs.YtofflhhlacdgfaaDoor
namespace Go.Proofs.YtofflhhlacdgfaaDoor
open Go.RowKit
set_option maxRecDepth 100000

/-- What the loop over the blocks holds. -/
structure Tbn (w W : World) (g rb : Nat) (st : List Int) : Prop where
  gr : w.grownBy W (some g)
  ar : Arr W g 134 (U32 st)
  ru : Arr W w.heap.size 142 [.int .i64 2, .int .i64 13, .int .i64 22, .int .i64 6, .int .i64 11, .int .i64 25, .int .i64 7, .int .i64 18, .int .i64 3, .int .i64 17, .int .i64 19, .int .i64 10, .slice (some ⟨rb, 0, none⟩) 64 64]
  rb : Arr W rb 158 (U32 KS)
theorem Tbn.all {w W : World} {g rb : Nat} {st : List Int} (h : Tbn w W g rb st) : W.cell? ⟨w.heap.size, 0, none⟩ = some (.int .i64 2) ∧ W.cell? ⟨w.heap.size, 1, none⟩ = some (.int .i64 13) ∧ W.cell? ⟨w.heap.size, 2, none⟩ = some (.int .i64 22) ∧ W.cell? ⟨w.heap.size, 3, none⟩ = some (.int .i64 6) ∧ W.cell? ⟨w.heap.size, 4, none⟩ = some (.int .i64 11) ∧ W.cell? ⟨w.heap.size, 5, none⟩ = some (.int .i64 25) ∧ W.cell? ⟨w.heap.size, 6, none⟩ = some (.int .i64 7) ∧ W.cell? ⟨w.heap.size, 7, none⟩ = some (.int .i64 18) ∧ W.cell? ⟨w.heap.size, 8, none⟩ = some (.int .i64 3) ∧ W.cell? ⟨w.heap.size, 9, none⟩ = some (.int .i64 17) ∧ W.cell? ⟨w.heap.size, 10, none⟩ = some (.int .i64 19) ∧ W.cell? ⟨w.heap.size, 11, none⟩ = some (.int .i64 10) ∧ W.cell? ⟨w.heap.size, 12, none⟩ = some (.slice (some ⟨rb, 0, none⟩) 64 64) :=
  ⟨h.ru.cell 0, h.ru.cell 1, h.ru.cell 2, h.ru.cell 3, h.ru.cell 4, h.ru.cell 5, h.ru.cell 6, h.ru.cell 7, h.ru.cell 8, h.ru.cell 9, h.ru.cell 10, h.ru.cell 11, h.ru.cell 12⟩
theorem Tbn.go {w A B : World} {g rb : Nat} {st st' : List Int} (h : Tbn w A g rb st) (hg : A.grownBy B (some g)) (ha : Arr B g 134 (U32 st')) (h1 : g < w.heap.size) (h2 : rb ≠ g) : Tbn w B g rb st' :=
  ⟨grown_trans h.gr hg, ha, (hg.block _ h.ru.lt (fun e => by injection e with e; omega)).trans h.ru, (hg.block _ h.rb.lt (fun e => by injection e with e; omega)).trans h.rb⟩

set_option maxHeartbeats 2000000 in
theorem takeBlocksCn (g : Nat) (hs : List Int) (a : Option Addr) (n c rb : Nat) (l : List Int) (w : World) (hA : Arr w g 134 (U32 hs)) (hl : hs.length = 8) (hx : Bs w a n c l) (ho : Off a g) (hrb : Arr w rb 158 (U32 KS)) (hgr : rb ≠ g) :
    Calls Tryd.prog 115 #[.pointer (some ⟨g, 0, none⟩), .slice a n c, rulesVn rb] w fun e w' => ∃ a' c', e = .returned (.slice a' (n % 64) c') ∧ Bs w' a' (n % 64) c' (l.drop (64 * (n / 64))) ∧ Off a' g ∧ Arr w' g 134 (U32 (fld hs l (n / 64))) ∧ w.grownBy w' (some g) := by
  have hll := hx.2.1
  have hgs := hA.lt
  obtain ⟨W, hW⟩ : ∃ W, W = w.alloc (.cells #[.int .i64 2, .int .i64 13, .int .i64 22, .int .i64 6, .int .i64 11, .int .i64 25, .int .i64 7, .int .i64 18, .int .i64 3, .int .i64 17, .int .i64 19, .int .i64 10, .slice (some ⟨rb, 0, none⟩) 64 64] 142) := ⟨_, rfl⟩
  have hB : Below w.heap.size w W := by rw [hW]; exact (Below.refl _ _).alloc (Nat.le_refl _) _
  have TB0 : Tbn w W g rb hs := ⟨grown_of_below hB _, hA.kept hB, by rw [hW]; exact Arr.new w [.int .i64 2, .int .i64 13, .int .i64 22, .int .i64 6, .int .i64 11, .int .i64 25, .int .i64 7, .int .i64 18, .int .i64 3, .int .i64 17, .int .i64 19, .int .i64 10, .slice (some ⟨rb, 0, none⟩) 64 64] _, hrb.kept hB⟩
  have hx0 := hx.below hB
  clear hA hrb hx hB
  go_enter Tryd.func115, Tryd.ntmps115
  go_wp2_with (go_at_call 131; refine (wordBytesn _).mono ?_; rintro e w' ⟨rfl, rfl⟩)
  rw [← hW]
  clear hW
  go_loopw [1] (fun v wr => ∃ (k : Nat) (a' : Option Addr) (m c' : Nat), v = .slice a' m c' ∧ m + 64 * k = n ∧ Bs wr a' m c' (l.drop (64 * k)) ∧ Off a' g ∧ Tbn w wr g rb (fld hs l k)) (fun v _ => match v with | .slice _ m _ => m | _ => 0)
  case atStart => exact ⟨0, a, n, c, rfl, rfl, by simpa using hx0, ho, TB0⟩
  case round =>
    clear hx0 ho TB0
    obtain ⟨k, a', m, c', rfl, hm, hx, ho, TB⟩ := hrel
    by_cases hBm : 64 ≤ m
    · have hBm' : (64 : Int) ≤ (m : Int) := by omega
      have hc' := hx.2.2.1
      obtain ⟨b, o, rfl⟩ : ∃ b o, a' = some ⟨b, o, none⟩ := by
        rcases hx.2.2.2.2 with h | ⟨b, o, h, _⟩
        · omega
        · exact ⟨b, o, h⟩
      have hcB : (64 : Int) ≤ (c' : Int) := by omega
      have TBd : Tbn w wr.drew g rb (fld hs l k) := ⟨grown_drew TB.gr, TB.ar.drew, TB.ru.drew, TB.rb.drew⟩
      have hxd : Bs wr.drew (some ⟨b, o, none⟩) m c' (l.drop (64 * k)) := hx.below (Below.refl _ _).drew
      clear TB hx
      go_wp2
      go_region_held3 (fun W => W.cell? ⟨w.heap.size, 0, none⟩ = some (.int .i64 2) ∧ W.cell? ⟨w.heap.size, 1, none⟩ = some (.int .i64 13) ∧ W.cell? ⟨w.heap.size, 2, none⟩ = some (.int .i64 22) ∧ W.cell? ⟨w.heap.size, 3, none⟩ = some (.int .i64 6) ∧ W.cell? ⟨w.heap.size, 4, none⟩ = some (.int .i64 11) ∧ W.cell? ⟨w.heap.size, 5, none⟩ = some (.int .i64 25) ∧ W.cell? ⟨w.heap.size, 6, none⟩ = some (.int .i64 7) ∧ W.cell? ⟨w.heap.size, 7, none⟩ = some (.int .i64 18) ∧ W.cell? ⟨w.heap.size, 8, none⟩ = some (.int .i64 3) ∧ W.cell? ⟨w.heap.size, 9, none⟩ = some (.int .i64 17) ∧ W.cell? ⟨w.heap.size, 10, none⟩ = some (.int .i64 19) ∧ W.cell? ⟨w.heap.size, 11, none⟩ = some (.int .i64 10) ∧ W.cell? ⟨w.heap.size, 12, none⟩ = some (.slice (some ⟨rb, 0, none⟩) 64 64))
        (exact TBd.all)
        ((go_at_call 132; refine (takeBlockCn g (fld hs l k) (some ⟨b, o, none⟩) c' rb ((l.drop (64 * k)).take 64) _ TBd.ar (fld_len hl l k) (hxd.take hBm) TBd.rb).mono ?_; rintro e w2 ⟨rfl, hA2, hg2⟩; replace TBd := TBd.go hg2 hA2 hgs hgr; replace hxd := hxd.grown hg2 ho; clear hA2 hg2))
      have hd : (l.drop (64 * k)).drop 64 = l.drop (64 * (k + 1)) := by rw [List.drop_drop]; congr 1
      have HD : Hid _ := hd
      have TB2 : Tbn w w2 g rb (fld hs l (k + 1)) := TBd
      clear hd TBd
      have hmB : ((m : Int) - 64).toNat = m - 64 := by omega
      have hcBn : ((c' : Int) - 64).toNat = c' - 64 := by omega
      by_cases hce : c' = 64
      · subst hce
        have hm0 : m = 64 := by omega
        subst hm0
        have hnil : l.drop (64 * (k + 1)) = [] := List.drop_eq_nil_of_le (by omega)
        have HX : Hid (Bs w2 (some ⟨b, o, none⟩) 0 0 (l.drop (64 * (k + 1)))) := Bs.none0 hnil
        clear hnil hxd
        go_wp2
        go_roundw
        case rel => exact ⟨k + 1, some ⟨b, o, none⟩, 0, 0, by first | rfl | simp, by omega, HX.out, ho, TB2⟩
        case measure => simp
      · have HX : Hid (Bs w2 (some ⟨b, o + 64, none⟩) (m - 64) (c' - 64) (l.drop (64 * (k + 1)))) := by
          unfold Hid
          rw [← HD.out]
          exact hxd.drop hBm
        have ho' : Off (some ⟨b, o + 64, none⟩) g := fun b' o' s he => by cases he; exact ho b o none rfl
        clear hxd
        go_wp2
        go_roundw
        case rel => exact ⟨k + 1, some ⟨b, o + 64, none⟩, m - 64, c' - 64, by first | rfl | simp, by omega, HX.out, ho', TB2⟩
        case measure => simp; omega
    · have hk : n / 64 = k := by omega
      have hrl : n % 64 = m := by omega
      have HRL : Hid _ := hrl
      have HKK : Hid _ := hk
      clear hrl hk
      have hBm' : ¬ ((64 : Int) ≤ (m : Int)) := by omega
      go_wp2
      go_ret
      refine ⟨a', c', ?_, ?_, ho, ?_, TB.gr⟩
      · rw [HRL.out]; rfl
      · rw [HRL.out, HKK.out]; exact hx
      · rw [HKK.out]; exact TB.ar
end Go.Proofs.YtofflhhlacdgfaaDoor

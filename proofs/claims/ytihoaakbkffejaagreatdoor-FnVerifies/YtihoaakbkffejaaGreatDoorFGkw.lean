/-
  What is proved here: the contracts of the program's shaSchedule and of its method takeBlock at; plain facts on parts of a slice of bytes, and on a slice that lies apart; the contract of the program's method takeBlocks at words of 64 bits: the; the contract of the program's appendHighFirst: the bytes of a number of 64; the contract of the library's bytes.Clone, for slices of at most 2^21 bytes; contracts of the library's slices.Grow (at the nil slice), slices.Concat.
-/
import Derived.Test.YtihoaakbkffejaaGreatDoorFGdw
import Derived.Test.YtihoaakbkffejaaGreatDoorFFm
import Derived.Laws.Rows
import Derived.Test.YtihoaakbkffejaaGreatDoorFWy
import Derived.Deep.RegionHeld3
import Derived.Lib.AppendZerosOnto
import Derived.WalkSpells
namespace Go.Proofs.YtihoaakbkffejaaGreatDoor
open Go.RowKit Go.Shelf
set_option maxRecDepth 100000
attribute [local go_sem] Oper.semAt_some

theorem schedFw (a : Option Addr) (c rb : Nat) (w : World) :
  Calls Tryz.prog 146 #[.slice a 128 c, rulesVw rb] w fun e w' => e = .returned (.func (.func 149) #[] #[.pointer (some ⟨w.heap.size, 0, none⟩), .pointer (some ⟨w.heap.size + 1, 0, none⟩)]) ∧
   Arr w' w.heap.size 22 [.slice a 128 c] ∧ Arr w' (w.heap.size + 1) 106 [.int .i64 28, .int .i64 34, .int .i64 39, .int .i64 14, .int .i64 18, .int .i64 41, .int .i64 1, .int .i64 8, .int .i64 7, .int .i64 19, .int .i64 61, .int .i64 6, .slice (some ⟨rb, 0, none⟩) 80 80] ∧ w'.heap.size = w.heap.size + 2 ∧ Below w.heap.size w w' := by
 obtain ⟨W, hW⟩ : ∃ W, W = (w.alloc (.cells #[.slice a 128 c] 22)).alloc (.cells #[.int .i64 28, .int .i64 34, .int .i64 39, .int .i64 14, .int .i64 18, .int .i64 41, .int .i64 1, .int .i64 8, .int .i64 7, .int .i64 19, .int .i64 61, .int .i64 6, .slice (some ⟨rb, 0, none⟩) 80 80] 106) := ⟨_, rfl⟩
 have h1 : Arr W w.heap.size 22 [.slice a 128 c] := by rw [hW]; exact (Arr.new w [.slice a 128 c] _).alloc _
 have h2 : Arr W (w.heap.size + 1) 106 [.int .i64 28, .int .i64 34, .int .i64 39, .int .i64 14, .int .i64 18, .int .i64 41, .int .i64 1, .int .i64 8, .int .i64 7, .int .i64 19, .int .i64 61, .int .i64 6, .slice (some ⟨rb, 0, none⟩) 80 80] := by
  rw [hW]
  have := Arr.new (w.alloc (.cells #[.slice a 128 c] 22)) [.int .i64 28, .int .i64 34, .int .i64 39, .int .i64 14, .int .i64 18, .int .i64 41, .int .i64 1, .int .i64 8, .int .i64 7, .int .i64 19, .int .i64 61, .int .i64 6, .slice (some ⟨rb, 0, none⟩) 80 80] 106
  rw [World.size_alloc] at this
  exact this
 have h3 : W.heap.size = w.heap.size + 2 := by rw [hW]; simp
 have hB : Below w.heap.size w W := by rw [hW]; exact ((Below.refl _ _).alloc (Nat.le_refl _) _).alloc (by simp) _
 go_enter Tryz.func146, Tryz.ntmps146
 go_wp2
 rw [← hW]
 go_ret
 exact ⟨rfl, h1, h2, h3, hB⟩

theorem stpw8_md (a b c d e f g h kw : Int) : stpw8 a b c d e f g h (kw % 18446744073709551616) = stpw8 a b c d e f g h kw := by
 unfold stpw8
 rw [show (h + cS1 e + chow e f g + kw % 18446744073709551616 + (cS0 a + majw a b c)) % 18446744073709551616 = (h + cS1 e + chow e f g + kw + (cS0 a + majw a b c)) % 18446744073709551616 by omega,
  show (d + (h + cS1 e + chow e f g + kw % 18446744073709551616)) % 18446744073709551616 = (d + (h + cS1 e + chow e f g + kw)) % 18446744073709551616 by omega]

def zqw (hs st : List Int) (k : Nat) : List Int := (List.zipWith (fun x y => (x + y) % 18446744073709551616) hs st).take k ++ hs.drop k
theorem zqw_len (hs st : List Int) (h : hs.length = 8) (h2 : st.length = 8) (k : Nat) (hk : k ≤ 8) : (zqw hs st k).length = 8 := by simp [zqw, h, h2]; omega
theorem zqw_get (hs st : List Int) (h : hs.length = 8) (h2 : st.length = 8) (k : Nat) (hk : k < 8) : (zqw hs st k).getD k 0 = hs.getD k 0 := by
 simp [zqw, List.getD, List.getElem?_append_right, h, h2, show min k 8 = k by omega]
theorem tksnw (l : List Int) (k : Nat) (h : k < l.length) : l.take (k + 1) = l.take k ++ [l.getD k 0] := by
 rw [List.take_add_one, List.getD, List.getElem?_eq_getElem h]; rfl
theorem zqw_set (hs st : List Int) (h : hs.length = 8) (h2 : st.length = 8) (k : Nat) (hk : k < 8) (v : Int) (hv : v = (hs.getD k 0 + st.getD k 0) % 18446744073709551616) : (U64 (zqw hs st k)).set k (.int .u64 v) = U64 (zqw hs st (k + 1)) := by
 subst hv
 have e : hs.drop k = hs.getD k 0 :: hs.drop (k + 1) := by
  rw [List.drop_eq_getElem_cons (by omega)]; simp [show k < hs.length by omega]
 have hz : (List.zipWith (fun x y => (x + y) % 18446744073709551616) hs st).length = 8 := by simp [h, h2]
 have e2 : (List.zipWith (fun x y => (x + y) % 18446744073709551616) hs st).take (k + 1) = (List.zipWith (fun x y => (x + y) % 18446744073709551616) hs st).take k ++ [(hs.getD k 0 + st.getD k 0) % 18446744073709551616] := by
  rw [tksnw _ _ (by omega)]
  simp [List.getD, List.getElem?_zipWith, show k < hs.length by omega, show k < st.length by omega]
 unfold zqw
 rw [e, e2]
 simp only [U64, List.map_append, List.map_cons]
 rw [List.set_append_right _ _ (by simp; omega)]
 simp [h, h2, show min k 8 = k by omega]
theorem infoCw : (Tryz.prog.info? 99).map (·.size) = some 1 := by kernel_rfl

structure Tkw (w : World) (S rb : Nat) (hs ws : List Int) (k g : Nat) (W : World) : Prop where
 gS : S ≤ g
 sz : S ≤ W.heap.size
 fr : Below w.heap.size w W
 ru : Arr W w.heap.size 106 [.int .i64 28, .int .i64 34, .int .i64 39, .int .i64 14, .int .i64 18, .int .i64 41, .int .i64 1, .int .i64 8, .int .i64 7, .int .i64 19, .int .i64 61, .int .i64 6, .slice (some ⟨rb, 0, none⟩) 80 80]
 ar : Arr W (w.heap.size + 1) 101 (U64 (rndw ws KW hs k))
theorem Tkw.step {w : World} {S rb : Nat} {hs ws : List Int} (hS : w.heap.size + 2 ≤ S) (k g g' : Nat) (A B : World) (_ : S ≤ g) (h : Tkw w S rb hs ws k g A) (hg : A.grownBy B (some g)) (hgg : g' = g ∨ A.heap.size ≤ g') : Tkw w S rb hs ws k g' B := by
 have h1 := h.gS
 have h2 := h.sz
 exact ⟨by omega, Nat.le_trans h2 hg.size, h.fr.grown hg h.fr.size (fun j e => by cases e; omega), (hg.block _ h.ru.lt (fun e => by cases e; omega)).trans h.ru, (hg.block _ h.ar.lt (fun e => by cases e; omega)).trans h.ar⟩
theorem Tkw.put {w : World} {S rb : Nat} {hs ws : List Int} (hS : w.heap.size + 2 ≤ S) (k g : Nat) (A : World) (o : Obj) (h : Tkw w S rb hs ws k g A) : Tkw w S rb hs ws k g (A.putObj (S + 1) o) := by
 have h2 := h.sz
 exact ⟨h.gS, by simpa using h2, h.fr.grown (grownBy_putObj' _ _ _) h.fr.size (fun j e => by cases e; omega), (World.putObj_heap_other (by omega)).trans h.ru, (World.putObj_heap_other (by omega)).trans h.ar⟩

set_option maxHeartbeats 2000000 in
theorem takeBlockCw (g : Nat) (hs : List Int) (a : Option Addr) (c rb : Nat) (xs : List Int) (w : World) (hA : Arr w g 101 (U64 hs)) (hl : hs.length = 8) (hx : Bs w a 128 c xs) (hrb : Arr w rb 160 (U64 KW)) :
  Calls Tryz.prog 135 #[.pointer (some ⟨g, 0, none⟩), .slice a 128 c, rulesVw rb] w fun e w' => e = .returned (.tuple #[]) ∧ Arr w' g 101 (U64 (blkw hs xs)) ∧ w.grownBy w' (some g) := by
 have hgs := hA.lt
 obtain ⟨l0, l1, l2, l3, l4, l5, l6, l7, rfl⟩ := list8 hl
 have c0 := hA.u64 0 (by simp)
 have c1 := hA.u64 1 (by simp)
 have c2 := hA.u64 2 (by simp)
 have c3 := hA.u64 3 (by simp)
 have c4 := hA.u64 4 (by simp)
 have c5 := hA.u64 5 (by simp)
 have c6 := hA.u64 6 (by simp)
 have c7 := hA.u64 7 (by simp)
 simp at c0 c1 c2 c3 c4 c5 c6 c7
 refine (callsIn_wide (n := 3)).1 ?_
 refine callsIn_of_wp_marks Tryz.func135 rfl trivial ?_ rfl
 simp only [Tryz.ntmps135, List.size_toArray, List.length_cons, List.length_nil, Nat.reduceAdd, Nat.reduceSub, Array.replicate_succ, Array.replicate_zero, List.push_toArray, List.append_toArray, List.nil_append, List.cons_append]
 obtain ⟨W0, hW0⟩ : ∃ W0, W0 = (w.alloc (.cells #[.int .i64 28, .int .i64 34, .int .i64 39, .int .i64 14, .int .i64 18, .int .i64 41, .int .i64 1, .int .i64 8, .int .i64 7, .int .i64 19, .int .i64 61, .int .i64 6, .slice (some ⟨rb, 0, none⟩) 80 80] 106)).alloc (.cells #[.int .u64 l0, .int .u64 l1, .int .u64 l2, .int .u64 l3, .int .u64 l4, .int .u64 l5, .int .u64 l6, .int .u64 l7] 101) := ⟨_, rfl⟩
 have hS0 : W0.heap.size = w.heap.size + 2 := by rw [hW0]; simp
 have hB0 : Below w.heap.size w W0 := by rw [hW0]; exact ((Below.refl _ _).alloc (Nat.le_refl _) _).alloc (by simp) _
 have hR0 : Arr W0 w.heap.size 106 [.int .i64 28, .int .i64 34, .int .i64 39, .int .i64 14, .int .i64 18, .int .i64 41, .int .i64 1, .int .i64 8, .int .i64 7, .int .i64 19, .int .i64 61, .int .i64 6, .slice (some ⟨rb, 0, none⟩) 80 80] := by rw [hW0]; exact (Arr.new w [.int .i64 28, .int .i64 34, .int .i64 39, .int .i64 14, .int .i64 18, .int .i64 41, .int .i64 1, .int .i64 8, .int .i64 7, .int .i64 19, .int .i64 61, .int .i64 6, .slice (some ⟨rb, 0, none⟩) 80 80] _).alloc _
 have hA0 : Arr W0 (w.heap.size + 1) 101 (U64 [l0, l1, l2, l3, l4, l5, l6, l7]) := by
  rw [hW0]
  have := Arr.new (w.alloc (.cells #[.int .i64 28, .int .i64 34, .int .i64 39, .int .i64 14, .int .i64 18, .int .i64 41, .int .i64 1, .int .i64 8, .int .i64 7, .int .i64 19, .int .i64 61, .int .i64 6, .slice (some ⟨rb, 0, none⟩) 80 80] 106)) (U64 [l0, l1, l2, l3, l4, l5, l6, l7]) 101
  rw [World.size_alloc] at this
  exact this
 gi_wp2
 rw [← hW0]
 refine ⟨trivial, (callsIn_wide.2 (schedFw a c rb W0)).mono ?_⟩
 rintro e w1 ⟨rfl, hp1, hq1, hs1, hb1⟩
 rw [hS0] at hp1 hq1 hs1
 have hB1 := hB0.trans (hb1.mono hB0.size)
 have hR1 := hR0.kept hb1
 have hA1 := hA0.kept hb1
 have hx1 := hx.below hB1
 clear hB0 hR0 hA0 hb1 hW0 c0 c1 c2 c3 c4 c5 c6 c7 hx
 obtain ⟨hs, hhs⟩ : ∃ hs, hs = [l0, l1, l2, l3, l4, l5, l6, l7] := ⟨_, rfl⟩
 obtain ⟨ws, hws⟩ : ∃ ws, ws = schedW xs 80 := ⟨_, rfl⟩
 have hwl : ws.length = 80 := by rw [hws]; exact schedW_len xs 80
 rw [← hhs] at hA hA1 hl
 have HT : ∀ W, Below w1.heap.size w1 W → Tells (3 - 1) Tryz.prog 149 #[.pointer (some ⟨w.heap.size + 2, 0, none⟩), .pointer (some ⟨w.heap.size + 2 + 1, 0, none⟩)] (fun k => #[.int .i64 (k : Int), .int .u64 (ws.getD k 0)]) 80 (fun b => b = w.heap.size + 2 ∨ b = w.heap.size + 2 + 1) W := by
  intro W hb
  rw [hws]
  exact schedTellsw (3 - 1) (w.heap.size + 2) (w.heap.size + 2 + 1) rb a c xs W (hp1.kept hb) (hq1.kept hb) (hx1.below hb)
 have T0 : ∀ W g', Below w1.heap.size w1 W → W.heap.size = w1.heap.size + 2 → W.heap.size ≤ g' → Tkw w w1.heap.size rb hs ws 0 g' W := fun W g' hb hz hle => ⟨by omega, by omega, hB1.trans (hb.mono hB1.size), hR1.kept hb, hA1.kept hb⟩
 have HHS : Hid _ := hhs
 have HWS : Hid _ := hws
 clear hhs hws hp1 hq1 hx1 hR1 hA1
 gi_wp2
 refine range_tells (n := 3) (gf := 149) (lb := #[.pointer (some ⟨w.heap.size + 2, 0, none⟩), .pointer (some ⟨w.heap.size + 2 + 1, 0, none⟩)]) rfl (enters_of Tryz.func149 (by kernel_rfl) rfl)
  (fun b hb => by rw [hs1]; omega) HT (fun _ => rfl) (Tkw w w1.heap.size rb hs ws) (Tkw.step (by omega)) (Tkw.put (by omega)) T0
  (fun k => { tmps := #[.pointer (some ⟨g, 0, none⟩), .slice a 128 c, rulesVw rb, undef, undef, .pointer (some ⟨w.heap.size, 0, none⟩), .pointer (some ⟨w.heap.size + 1, 0, none⟩), .int .i64 (k : Int), .int .u64 (ws.getD k 0), undef, undef, .pointer (some ⟨g, 0, none⟩), .pointer (some ⟨g, 0, none⟩), .agg #[.int .u64 l0, .int .u64 l1, .int .u64 l2, .int .u64 l3, .int .u64 l4, .int .u64 l5, .int .u64 l6, .int .u64 l7], .slice a 128 c, .agg #[.int .i64 28, .int .i64 34, .int .i64 39, .int .i64 14, .int .i64 18, .int .i64 41, .int .i64 1, .int .i64 8, .int .i64 7, .int .i64 19, .int .i64 61, .int .i64 6, .slice (some ⟨rb, 0, none⟩) 80 80], .func (.func 149) #[] #[.pointer (some ⟨w.heap.size + 2, 0, none⟩), .pointer (some ⟨w.heap.size + 2 + 1, 0, none⟩)], .int .i64 (k : Int), .int .u64 (ws.getD k 0), undef, undef, undef, undef, undef, undef, undef, undef, undef, undef, undef, undef, undef, undef, undef, undef, undef, undef, undef, undef, undef, undef, undef, undef, undef], defers := [] }) ?assign ?body ?done
 case assign =>
  intro l k W R _ hR
  generalize ws.getD k 0 = x at hR ⊢
  gi_wp2
  exact hR
 case body =>
  clear HT T0
  intro l k g' W hk hg1 hg2 hg3 hz hgl TK
  obtain ⟨x, hxx⟩ : ∃ x, x = ws.getD k 0 := ⟨_, rfl⟩
  obtain ⟨y, hyy⟩ : ∃ y, y = KW.getD k 0 := ⟨_, rfl⟩
  have hr : rndw ws KW hs (k + 1) = stpw (rndw ws KW hs k) (x + y) := by rw [hxx, hyy]; rfl
  obtain ⟨a0, a1, a2, a3, a4, a5, a6, a7, h8e⟩ := list8 (rndw_len ws KW hl k)
  have hr' : rndw ws KW hs (k + 1) = stpw8 a0 a1 a2 a3 a4 a5 a6 a7 ((x + y) % 18446744073709551616) := by rw [hr, h8e, stpw8_md]; rfl
  have hck : W.cell? ⟨rb, k, none⟩ = some (.int .u64 y) := by
   rw [hyy]
   exact (hrb.kept TK.fr).u64 k (by rw [KW_len]; exact hk)
  have hr12 : W.cell? ⟨w.heap.size, 12, none⟩ = some (.slice (some ⟨rb, 0, none⟩) 80 80) := TK.ru.cell 12
  have u0 : W.cell? ⟨w.heap.size, 0, none⟩ = some (.int .i64 28) := TK.ru.cell 0
  have u1 : W.cell? ⟨w.heap.size, 1, none⟩ = some (.int .i64 34) := TK.ru.cell 1
  have u2 : W.cell? ⟨w.heap.size, 2, none⟩ = some (.int .i64 39) := TK.ru.cell 2
  have u3 : W.cell? ⟨w.heap.size, 3, none⟩ = some (.int .i64 14) := TK.ru.cell 3
  have u4 : W.cell? ⟨w.heap.size, 4, none⟩ = some (.int .i64 18) := TK.ru.cell 4
  have u5 : W.cell? ⟨w.heap.size, 5, none⟩ = some (.int .i64 41) := TK.ru.cell 5
  have u6 : W.cell? ⟨w.heap.size, 6, none⟩ = some (.int .i64 1) := TK.ru.cell 6
  have u7 : W.cell? ⟨w.heap.size, 7, none⟩ = some (.int .i64 8) := TK.ru.cell 7
  have u8 : W.cell? ⟨w.heap.size, 8, none⟩ = some (.int .i64 7) := TK.ru.cell 8
  have u9 : W.cell? ⟨w.heap.size, 9, none⟩ = some (.int .i64 19) := TK.ru.cell 9
  have u10 : W.cell? ⟨w.heap.size, 10, none⟩ = some (.int .i64 61) := TK.ru.cell 10
  have u11 : W.cell? ⟨w.heap.size, 11, none⟩ = some (.int .i64 6) := TK.ru.cell 11
  have hAr := TK.ar
  rw [h8e] at hAr
  have HR : Hid _ := hr'
  rw [← hxx]
  clear hr hr' h8e hxx hyy
  have hkR : (k : Int) < 80 := by omega
  have hmx : Tryz.prog.follows .mixedOrders = true := by kernel_rfl
  have hwr : IntKind.u64.wrap (x + y) = (x + y) % 18446744073709551616 := wrap_u64 _
  have FIN : ∀ w2, Arr w2 (w.heap.size + 1) 101 (U64 (stpw8 a0 a1 a2 a3 a4 a5 a6 a7 ((x + y) % 18446744073709551616))) → W.drew.grownBy w2 (some (w.heap.size + 1)) →
    Tkw w w1.heap.size rb hs ws (k + 1) g' w2 ∧ Same (fun b => b = g' ∨ (b = w.heap.size + 2 ∨ b = w.heap.size + 2 + 1) ∨ b = w1.heap.size ∨ b = w1.heap.size + 1) W w2 := by
   intro w2 h5 hg5
   have hg6 : W.grownBy w2 (some (w.heap.size + 1)) := ⟨hg5.os, hg5.tape, hg5.output, hg5.size, hg5.block⟩
   have e1 := TK.gS
   have e2 := TK.sz
   refine ⟨⟨TK.gS, Nat.le_trans TK.sz hg6.size, TK.fr.grown hg6 TK.fr.size (fun j e => by cases e; omega), (hg6.block _ TK.ru.lt (fun e => by injection e with e; omega)).trans TK.ru, by rw [HR.out]; exact h5⟩, Same.of_grown hg6 (fun b hb e => by cases e; omega)⟩
  gi_wp2
  refine region_round l hmx rfl (by kernel_rfl) ?_
  refine wpAnyIn_take (i := 0) (v := ?_) rfl rfl (by kernel_rfl) (by kernel_rfl) (by kernel_rfl) (fun _ _ _ h => h) ⟨Or.inl ⟨by rfl, ?hy⟩, fun _ => rfl⟩ ?_
  case hy => (intro Z; go_simp; try with_reducible rfl)
  refine wpAnyIn_take (i := 1) (v := ?_) rfl rfl (by kernel_rfl) (by kernel_rfl) (by kernel_rfl) (fun _ _ _ h => h) ⟨Or.inl ⟨by rfl, ?hy⟩, fun _ => rfl⟩ ?_
  case hy => (intro Z; go_simp; try with_reducible rfl)
  refine wpAnyIn_take (i := 3) (v := ?_) rfl rfl (by kernel_rfl) (by kernel_rfl) (by kernel_rfl) (fun _ _ _ h => h) ⟨Or.inl ⟨by rfl, ?hy⟩, fun _ => rfl⟩ ?_
  case hy => (intro Z; go_simp; try with_reducible rfl)
  refine wpAnyIn_take (i := 7) (v := ?_) rfl rfl (by kernel_rfl) (by kernel_rfl) (by kernel_rfl) (fun _ _ _ h => h) ⟨Or.inl ⟨by rfl, ?hy⟩, fun _ => rfl⟩ ?_
  case hy => (intro Z; go_simp; try with_reducible rfl)
  refine wpAnyIn_ready (rs := [2, 8]) (by kernel_rfl) (by simp) ?_
  refine AllReadyIn.cons rfl (fun K hK => ?_) (AllReadyIn.cons rfl (fun K hK => ?_) AllReadyIn.nil)
  ·go_simp
   refine hK _ _ ?_
   clear hK K
   refine wpAnyIn_take (i := 4) (v := ?_) rfl rfl (by kernel_rfl) (by kernel_rfl) (by kernel_rfl) (fun _ _ _ h => h) ⟨Or.inl ⟨by rfl, ?hy⟩, fun _ => rfl⟩ ?_
   case hy => (intro Z; go_simp; try with_reducible rfl)
   refine wpAnyIn_ready (rs := [5, 8]) (by kernel_rfl) (by simp) ?_
   refine AllReadyIn.cons rfl (fun K hK => ?_) (AllReadyIn.cons rfl (fun K hK => ?_) AllReadyIn.nil)
   ·go_simp
    refine hK _ _ ?_
    clear hK K
    refine wpAnyIn_take (i := 6) (v := ?_) rfl rfl (by kernel_rfl) (by kernel_rfl) (by kernel_rfl) (fun _ _ _ h => h) ⟨Or.inl ⟨by rfl, ?hy⟩, fun _ => rfl⟩ ?_
    case hy => (intro Z; go_simp; try with_reducible rfl)
    refine wpAnyIn_ready (rs := [8]) (by kernel_rfl) (by simp) ?_
    refine AllReadyIn.cons rfl (fun K hK => ?_) AllReadyIn.nil
    go_simp
    refine hK _ _ ?_
    clear hK K
    refine wpAnyIn_ready (rs := [9]) (by kernel_rfl) (by simp) ?_
    refine AllReadyIn.cons rfl (fun K hK => ?_) AllReadyIn.nil
    go_simp
    refine ⟨trivial, (callsIn_wide.2 (roundCw (w.heap.size + 1) a0 a1 a2 a3 a4 a5 a6 a7 _ _ hAr.drew)).mono ?_⟩
    rintro e w2 ⟨rfl, h5, hg5⟩
    refine hK _ _ ?_
    clear hK K
    refine wpAnyIn_done (by kernel_rfl) ?_ _
    exact FIN w2 h5 hg5
   ·go_simp
    refine hK _ _ ?_
    clear hK K
    refine wpAnyIn_ready (rs := [5]) (by kernel_rfl) (by simp) ?_
    refine AllReadyIn.cons rfl (fun K hK => ?_) AllReadyIn.nil
    go_simp
    refine hK _ _ ?_
    clear hK K
    refine wpAnyIn_take (i := 6) (v := ?_) rfl rfl (by kernel_rfl) (by kernel_rfl) (by kernel_rfl) (fun _ _ _ h => h) ⟨Or.inl ⟨by rfl, ?hy⟩, fun _ => rfl⟩ ?_
    case hy => (intro Z; go_simp; try with_reducible rfl)
    refine wpAnyIn_ready (rs := [9]) (by kernel_rfl) (by simp) ?_
    refine AllReadyIn.cons rfl (fun K hK => ?_) AllReadyIn.nil
    go_simp
    refine ⟨trivial, (callsIn_wide.2 (roundCw (w.heap.size + 1) a0 a1 a2 a3 a4 a5 a6 a7 _ _ hAr.drew)).mono ?_⟩
    rintro e w2 ⟨rfl, h5, hg5⟩
    refine hK _ _ ?_
    clear hK K
    refine wpAnyIn_done (by kernel_rfl) ?_ _
    exact FIN w2 h5 hg5
  ·go_simp
   refine hK _ _ ?_
   clear hK K
   refine wpAnyIn_ready (rs := [2]) (by kernel_rfl) (by simp) ?_
   refine AllReadyIn.cons rfl (fun K hK => ?_) AllReadyIn.nil
   go_simp
   refine hK _ _ ?_
   clear hK K
   refine wpAnyIn_take (i := 4) (v := ?_) rfl rfl (by kernel_rfl) (by kernel_rfl) (by kernel_rfl) (fun _ _ _ h => h) ⟨Or.inl ⟨by rfl, ?hy⟩, fun _ => rfl⟩ ?_
   case hy => (intro Z; go_simp; try with_reducible rfl)
   refine wpAnyIn_ready (rs := [5]) (by kernel_rfl) (by simp) ?_
   refine AllReadyIn.cons rfl (fun K hK => ?_) AllReadyIn.nil
   go_simp
   refine hK _ _ ?_
   clear hK K
   refine wpAnyIn_take (i := 6) (v := ?_) rfl rfl (by kernel_rfl) (by kernel_rfl) (by kernel_rfl) (fun _ _ _ h => h) ⟨Or.inl ⟨by rfl, ?hy⟩, fun _ => rfl⟩ ?_
   case hy => (intro Z; go_simp; try with_reducible rfl)
   refine wpAnyIn_ready (rs := [9]) (by kernel_rfl) (by simp) ?_
   refine AllReadyIn.cons rfl (fun K hK => ?_) AllReadyIn.nil
   go_simp
   refine ⟨trivial, (callsIn_wide.2 (roundCw (w.heap.size + 1) a0 a1 a2 a3 a4 a5 a6 a7 _ _ hAr.drew)).mono ?_⟩
   rintro e w2 ⟨rfl, h5, hg5⟩
   refine hK _ _ ?_
   clear hK K
   refine wpAnyIn_done (by kernel_rfl) ?_ _
   exact FIN w2 h5 hg5
 case done =>
  clear HT T0
  intro g' W TK hD
  have hst := rndw_len ws KW hl 80
  obtain ⟨st, hste⟩ : ∃ st, st = rndw ws KW hs 80 := ⟨_, rfl⟩
  have HK : Hid (blkw hs xs = zqw hs st 8) := by
   unfold Hid zqw blkw
   rw [hste, HWS.out]
   have : (List.zipWith (fun x y => (x + y) % 18446744073709551616) hs (rndw (schedW xs 80) KW hs 80)).length = 8 := by simp [rndw_len _ _ hl, hl]
   rw [List.take_of_length_le (by omega), List.drop_eq_nil_of_le (by omega)]
   simp
  rw [← hste] at hst
  have hA2 : Arr W g 101 (U64 (zqw hs st 0)) := by
   have : zqw hs st 0 = hs := by simp [zqw]
   rw [this]; exact hA.kept TK.fr
  have hG := grown_of_below TK.fr (some g)
  have hgD : w1.heap.size ≠ g := by omega
  have hAs := TK.ar
  rw [← hste] at hAs
  have hwsz := TK.fr.size
  obtain ⟨a0, a1, a2, a3, a4, a5, a6, a7, hse⟩ := list8 hst
  have ix : ∀ (k : Nat), k < 8 → ∀ w, (Instr.index 101 (.agg #[.int .u64 a0, .int .u64 a1, .int .u64 a2, .int .u64 a3, .int .u64 a4, .int .u64 a5, .int .u64 a6, .int .u64 a7]) (.int .i64 (k : Int))).run Tryz.prog w = .ok (.int .u64 (st.getD k 0)) w := by
   intro k hk w
   have := index_arr Tryz.underlying101 Tryz.underlying99 infoCw st hst k hk w
   rw [hse] at this ⊢
   exact this
  have c0 : W.cell? ⟨w.heap.size + 1, 0, none⟩ = some (.int .u64 a0) := (hse ▸ hAs).cell 0
  have c1 : W.cell? ⟨w.heap.size + 1, 1, none⟩ = some (.int .u64 a1) := (hse ▸ hAs).cell 1
  have c2 : W.cell? ⟨w.heap.size + 1, 2, none⟩ = some (.int .u64 a2) := (hse ▸ hAs).cell 2
  have c3 : W.cell? ⟨w.heap.size + 1, 3, none⟩ = some (.int .u64 a3) := (hse ▸ hAs).cell 3
  have c4 : W.cell? ⟨w.heap.size + 1, 4, none⟩ = some (.int .u64 a4) := (hse ▸ hAs).cell 4
  have c5 : W.cell? ⟨w.heap.size + 1, 5, none⟩ = some (.int .u64 a5) := (hse ▸ hAs).cell 5
  have c6 : W.cell? ⟨w.heap.size + 1, 6, none⟩ = some (.int .u64 a6) := (hse ▸ hAs).cell 6
  have c7 : W.cell? ⟨w.heap.size + 1, 7, none⟩ = some (.int .u64 a7) := (hse ▸ hAs).cell 7
  have HSE : Hid _ := hse
  clear hse hste TK hAs hA HWS
  gi_wp2
  clear c0 c1 c2 c3 c4 c5 c6 c7
  gi_loopw [30] (fun i wr => ∃ k : Nat, k ≤ 8 ∧ i = .int .i64 k ∧ Arr wr g 101 (U64 (zqw hs st k)) ∧ w.grownBy wr (some g) ∧ wr.heap[w1.heap.size]? = some (.deferred (some [])) ∧ w1.heap.size < wr.heap.size) (fun i _ => 8 - (intOf i).toNat)
  case atStart => exact ⟨0, by omega, rfl, hA2, hG, hD, (Array.getElem?_eq_some_iff.1 hD).1⟩
  case round =>
   clear hA2 hG hD hwsz
   obtain ⟨k, hk, rfl, h4, hG, hD, hDs⟩ := hrel
   by_cases hlt : k < 8
   ·have ixk := ix k hlt
    obtain ⟨x, hxx⟩ : ∃ x, x = st.getD k 0 := ⟨_, rfl⟩
    obtain ⟨y, hyy⟩ : ∃ y, y = hs.getD k 0 := ⟨_, rfl⟩
    rw [← hxx] at ixk
    have hck := h4.u64 k (by rw [zqw_len hs st hl hst k hk]; omega)
    rw [zqw_get hs st hl hst k hlt, ← hyy] at hck
    have hfz := h4.frozen k
    have h5 := h4.set k (.int .u64 ((y + x) % 18446744073709551616))
    rw [zqw_set hs st hl hst k hlt _ (by rw [hxx, hyy])] at h5
    have hG5 := grown_set hG k (.int .u64 ((y + x) % 18446744073709551616))
    have hD5 : (wr.setCell ⟨g, k, none⟩ (.int .u64 ((y + x) % 18446744073709551616))).heap[w1.heap.size]? = some (.deferred (some [])) := (heap_setCell_other _ _ _ _ (fun e => hgD e)).trans hD
    have hDs5 : w1.heap.size < (wr.setCell ⟨g, k, none⟩ (.int .u64 ((y + x) % 18446744073709551616))).heap.size := by simpa using hDs
    have H5 : Hid (Arr (wr.setCell ⟨g, k, none⟩ (.int .u64 ((y + x) % 18446744073709551616))).drew g 101 (U64 (zqw hs st (k + 1)))) := h5
    have HG5 : Hid (w.grownBy (wr.setCell ⟨g, k, none⟩ (.int .u64 ((y + x) % 18446744073709551616))).drew (some g)) := grown_drew hG5
    have HD5 : Hid ((wr.setCell ⟨g, k, none⟩ (.int .u64 ((y + x) % 18446744073709551616))).drew.heap[w1.heap.size]? = some (.deferred (some []))) := hD5
    have HDs5 : Hid (w1.heap.size < (wr.setCell ⟨g, k, none⟩ (.int .u64 ((y + x) % 18446744073709551616))).drew.heap.size) := hDs5
    have hwr : IntKind.u64.wrap (y + x) = (y + x) % 18446744073709551616 := wrap_u64 _
    clear h5 hG5 hD5 hDs5 h4 hG hD hDs hxx hyy ix
    have hk8 : (k : Int) < 8 := by omega
    have hk0 : (0 : Int) ≤ (k : Int) := by omega
    gi_wp2
    refine wpIn_wide.2 ?_
    go_region
    clear hck hfz ixk
    gi_wp2
    go_roundw
    case rel => exact ⟨k + 1, by omega, by go_num, H5.out, HG5.out, HD5.out, HDs5.out⟩
    case measure => simp [intOf]; omega
   ·have hkn : k = 8 := by omega
    subst hkn
    clear hst ix
    gi_wp2
    refine ⟨by simp, .inl ⟨_, _, rfl, run_takeDeferred hD, ?_⟩⟩
    exact ⟨_, results_none rfl _ _ _, rfl, by rw [← HHS.out, HK.out]; exact (World.putObj_heap_other (fun e => hgD e.symm)).trans h4, grown_put hG (by omega) _⟩
end Go.Proofs.YtihoaakbkffejaaGreatDoor
namespace Go.Proofs.YtihoaakbkffejaaGreatDoor
open Go.RowKit

def Off (a : Option Addr) (g : Nat) : Prop := ∀ b o s, a = some ⟨b, o, s⟩ → b ≠ g
theorem Bs.grown {w w' : World} {a : Option Addr} {n c g : Nat} {xs : List Int} (h : Bs w a n c xs) (hg : w.grownBy w' (some g)) (ho : Off a g) : Bs w' a n c xs := by
 obtain ⟨h0, h1, h2, h3, h4⟩ := h
 refine ⟨h0, h1, h2, h3, ?_⟩
 rcases h4 with h4 | ⟨b, o, ha, hlt, hc⟩
 ·exact .inl h4
 ·exact .inr ⟨b, o, ha, Nat.lt_of_lt_of_le hlt hg.size, fun j hj => (World.cell?_of_block (hg.block b hlt (fun e => ho b o none ha (by cases e; rfl)))).trans (hc j hj)⟩
theorem Bs.take {w : World} {a : Option Addr} {n c m : Nat} {xs : List Int} (h : Bs w a n c xs) (hm : m ≤ n) : Bs w a m c (xs.take m) := by
 obtain ⟨h0, h1, h2, h3, h4⟩ := h
 refine ⟨h0, by simp; omega, by omega, fun x hx => h3 x (List.mem_of_mem_take hx), ?_⟩
 rcases h4 with h4 | ⟨b, o, ha, hlt, hc⟩
 ·exact .inl (by omega)
 ·refine .inr ⟨b, o, ha, hlt, fun j hj => ?_⟩
  rw [hc j (by omega)]
  simp [List.getD, hj]
theorem Bs.drop {w : World} {b o : Nat} {n c m : Nat} {xs : List Int} (h : Bs w (some ⟨b, o, none⟩) n c xs) (hm : m ≤ n) : Bs w (some ⟨b, o + m, none⟩) (n - m) (c - m) (xs.drop m) := by
 obtain ⟨h0, h1, h2, h3, h4⟩ := h
 refine ⟨(fun h => by cases h), by simp; omega, by omega, fun x hx => h3 x (List.mem_of_mem_drop hx), ?_⟩
 by_cases hz : n - m = 0
 ·exact .inl hz
 rcases h4 with h4 | ⟨b', o', ha, hlt, hc⟩
 ·exact .inl (by omega)
 ·cases ha
  refine .inr ⟨b, o + m, rfl, hlt, fun j hj => ?_⟩
  have := hc (m + j) (by omega)
  rw [show o + m + j = o + (m + j) by omega, this]
  simp [List.getD, List.getElem?_drop]
theorem Bs.none0 {w : World} {b o : Nat} {c : Nat} {xs : List Int} (hx : xs = []) : Bs w (some ⟨b, o, none⟩) 0 c xs := by
 subst hx
 exact ⟨(fun h => by cases h), rfl, Nat.zero_le _, by simp, .inl rfl⟩

theorem off_of_own {W : World} {B e s n c g : Nat} {a : Option Addr} {l : List Value} (h : W.ownsRow B e s (.slice a n c) n l) (hg : g < B) : Off a g := by
 intro b o s' he
 have := h.lt b (by rw [he]; rfl)
 omega
end Go.Proofs.YtihoaakbkffejaaGreatDoor
namespace Go.Proofs.YtihoaakbkffejaaGreatDoor
open Go.RowKit
set_option maxRecDepth 100000

structure Tbw (w W : World) (g rb : Nat) (st : List Int) : Prop where
 gr : w.grownBy W (some g)
 ar : Arr W g 101 (U64 st)
 ru : Arr W w.heap.size 106 [.int .i64 28, .int .i64 34, .int .i64 39, .int .i64 14, .int .i64 18, .int .i64 41, .int .i64 1, .int .i64 8, .int .i64 7, .int .i64 19, .int .i64 61, .int .i64 6, .slice (some ⟨rb, 0, none⟩) 80 80]
 rb : Arr W rb 160 (U64 KW)
theorem Tbw.all {w W : World} {g rb : Nat} {st : List Int} (h : Tbw w W g rb st) : W.cell? ⟨w.heap.size, 0, none⟩ = some (.int .i64 28) ∧ W.cell? ⟨w.heap.size, 1, none⟩ = some (.int .i64 34) ∧ W.cell? ⟨w.heap.size, 2, none⟩ = some (.int .i64 39) ∧ W.cell? ⟨w.heap.size, 3, none⟩ = some (.int .i64 14) ∧ W.cell? ⟨w.heap.size, 4, none⟩ = some (.int .i64 18) ∧ W.cell? ⟨w.heap.size, 5, none⟩ = some (.int .i64 41) ∧ W.cell? ⟨w.heap.size, 6, none⟩ = some (.int .i64 1) ∧ W.cell? ⟨w.heap.size, 7, none⟩ = some (.int .i64 8) ∧ W.cell? ⟨w.heap.size, 8, none⟩ = some (.int .i64 7) ∧ W.cell? ⟨w.heap.size, 9, none⟩ = some (.int .i64 19) ∧ W.cell? ⟨w.heap.size, 10, none⟩ = some (.int .i64 61) ∧ W.cell? ⟨w.heap.size, 11, none⟩ = some (.int .i64 6) ∧ W.cell? ⟨w.heap.size, 12, none⟩ = some (.slice (some ⟨rb, 0, none⟩) 80 80) :=
 ⟨h.ru.cell 0, h.ru.cell 1, h.ru.cell 2, h.ru.cell 3, h.ru.cell 4, h.ru.cell 5, h.ru.cell 6, h.ru.cell 7, h.ru.cell 8, h.ru.cell 9, h.ru.cell 10, h.ru.cell 11, h.ru.cell 12⟩
theorem Tbw.go {w A B : World} {g rb : Nat} {st st' : List Int} (h : Tbw w A g rb st) (hg : A.grownBy B (some g)) (ha : Arr B g 101 (U64 st')) (h1 : g < w.heap.size) (h2 : rb ≠ g) : Tbw w B g rb st' :=
 ⟨grown_trans h.gr hg, ha, (hg.block _ h.ru.lt (fun e => by injection e with e; omega)).trans h.ru, (hg.block _ h.rb.lt (fun e => by injection e with e; omega)).trans h.rb⟩

set_option maxHeartbeats 2000000 in
theorem takeBlocksCw (g : Nat) (hs : List Int) (a : Option Addr) (n c rb : Nat) (l : List Int) (w : World) (hA : Arr w g 101 (U64 hs)) (hl : hs.length = 8) (hx : Bs w a n c l) (ho : Off a g) (hrb : Arr w rb 160 (U64 KW)) (hgr : rb ≠ g) :
  Calls Tryz.prog 107 #[.pointer (some ⟨g, 0, none⟩), .slice a n c, rulesVw rb] w fun e w' => ∃ a' c', e = .returned (.slice a' (n % 128) c') ∧ Bs w' a' (n % 128) c' (l.drop (128 * (n / 128))) ∧ Off a' g ∧ Arr w' g 101 (U64 (fldw hs l (n / 128))) ∧ w.grownBy w' (some g) := by
 have hll := hx.2.1
 have hgs := hA.lt
 obtain ⟨W, hW⟩ : ∃ W, W = w.alloc (.cells #[.int .i64 28, .int .i64 34, .int .i64 39, .int .i64 14, .int .i64 18, .int .i64 41, .int .i64 1, .int .i64 8, .int .i64 7, .int .i64 19, .int .i64 61, .int .i64 6, .slice (some ⟨rb, 0, none⟩) 80 80] 106) := ⟨_, rfl⟩
 have hB : Below w.heap.size w W := by rw [hW]; exact (Below.refl _ _).alloc (Nat.le_refl _) _
 have TB0 : Tbw w W g rb hs := ⟨grown_of_below hB _, hA.kept hB, by rw [hW]; exact Arr.new w [.int .i64 28, .int .i64 34, .int .i64 39, .int .i64 14, .int .i64 18, .int .i64 41, .int .i64 1, .int .i64 8, .int .i64 7, .int .i64 19, .int .i64 61, .int .i64 6, .slice (some ⟨rb, 0, none⟩) 80 80] _, hrb.kept hB⟩
 have hx0 := hx.below hB
 clear hA hrb hx hB
 go_enter Tryz.func107, Tryz.ntmps107
 go_wp2_with (go_at_call 110; refine (wordBytesw _).mono ?_; rintro e w' ⟨rfl, rfl⟩)
 rw [← hW]
 clear hW
 go_loopw [1] (fun v wr => ∃ (k : Nat) (a' : Option Addr) (m c' : Nat), v = .slice a' m c' ∧ m + 128 * k = n ∧ Bs wr a' m c' (l.drop (128 * k)) ∧ Off a' g ∧ Tbw w wr g rb (fldw hs l k)) (fun v _ => match v with | .slice _ m _ => m | _ => 0)
 case atStart => exact ⟨0, a, n, c, rfl, rfl, by simpa using hx0, ho, TB0⟩
 case round =>
  clear hx0 ho TB0
  obtain ⟨k, a', m, c', rfl, hm, hx, ho, TB⟩ := hrel
  by_cases hBm : 128 ≤ m
  ·have hBm' : (128 : Int) ≤ (m : Int) := by omega
   have hc' := hx.2.2.1
   obtain ⟨b, o, rfl⟩ : ∃ b o, a' = some ⟨b, o, none⟩ := by
    rcases hx.2.2.2.2 with h | ⟨b, o, h, _⟩
    ·omega
    ·exact ⟨b, o, h⟩
   have hcB : (128 : Int) ≤ (c' : Int) := by omega
   have TBd : Tbw w wr.drew g rb (fldw hs l k) := ⟨grown_drew TB.gr, TB.ar.drew, TB.ru.drew, TB.rb.drew⟩
   have hxd : Bs wr.drew (some ⟨b, o, none⟩) m c' (l.drop (128 * k)) := hx.below (Below.refl _ _).drew
   clear TB hx
   go_wp2
   go_region_held3 (fun W => W.cell? ⟨w.heap.size, 0, none⟩ = some (.int .i64 28) ∧ W.cell? ⟨w.heap.size, 1, none⟩ = some (.int .i64 34) ∧ W.cell? ⟨w.heap.size, 2, none⟩ = some (.int .i64 39) ∧ W.cell? ⟨w.heap.size, 3, none⟩ = some (.int .i64 14) ∧ W.cell? ⟨w.heap.size, 4, none⟩ = some (.int .i64 18) ∧ W.cell? ⟨w.heap.size, 5, none⟩ = some (.int .i64 41) ∧ W.cell? ⟨w.heap.size, 6, none⟩ = some (.int .i64 1) ∧ W.cell? ⟨w.heap.size, 7, none⟩ = some (.int .i64 8) ∧ W.cell? ⟨w.heap.size, 8, none⟩ = some (.int .i64 7) ∧ W.cell? ⟨w.heap.size, 9, none⟩ = some (.int .i64 19) ∧ W.cell? ⟨w.heap.size, 10, none⟩ = some (.int .i64 61) ∧ W.cell? ⟨w.heap.size, 11, none⟩ = some (.int .i64 6) ∧ W.cell? ⟨w.heap.size, 12, none⟩ = some (.slice (some ⟨rb, 0, none⟩) 80 80))
    (exact TBd.all)
    ((go_at_call 135; refine (takeBlockCw g (fldw hs l k) (some ⟨b, o, none⟩) c' rb ((l.drop (128 * k)).take 128) _ TBd.ar (fldw_len hl l k) (hxd.take hBm) TBd.rb).mono ?_; rintro e w2 ⟨rfl, hA2, hg2⟩; replace TBd := TBd.go hg2 hA2 hgs hgr; replace hxd := hxd.grown hg2 ho; clear hA2 hg2))
   have hd : (l.drop (128 * k)).drop 128 = l.drop (128 * (k + 1)) := by rw [List.drop_drop]; congr 1
   have HD : Hid _ := hd
   have TB2 : Tbw w w2 g rb (fldw hs l (k + 1)) := TBd
   clear hd TBd
   have hmB : ((m : Int) - 128).toNat = m - 128 := by omega
   have hcBn : ((c' : Int) - 128).toNat = c' - 128 := by omega
   by_cases hce : c' = 128
   ·subst hce
    have hm0 : m = 128 := by omega
    subst hm0
    have hnil : l.drop (128 * (k + 1)) = [] := List.drop_eq_nil_of_le (by omega)
    have HX : Hid (Bs w2 (some ⟨b, o, none⟩) 0 0 (l.drop (128 * (k + 1)))) := Bs.none0 hnil
    clear hnil hxd
    go_wp2
    go_roundw
    case rel => exact ⟨k + 1, some ⟨b, o, none⟩, 0, 0, by first | rfl | simp, by omega, HX.out, ho, TB2⟩
    case measure => simp
   ·have HX : Hid (Bs w2 (some ⟨b, o + 128, none⟩) (m - 128) (c' - 128) (l.drop (128 * (k + 1)))) := by
     unfold Hid
     rw [← HD.out]
     exact hxd.drop hBm
    have ho' : Off (some ⟨b, o + 128, none⟩) g := fun b' o' s he => by cases he; exact ho b o none rfl
    clear hxd
    go_wp2
    go_roundw
    case rel => exact ⟨k + 1, some ⟨b, o + 128, none⟩, m - 128, c' - 128, by first | rfl | simp, by omega, HX.out, ho', TB2⟩
    case measure => simp; omega
  ·have hk : n / 128 = k := by omega
   have hrl : n % 128 = m := by omega
   have HRL : Hid _ := hrl
   have HKK : Hid _ := hk
   clear hrl hk
   have hBm' : ¬ ((128 : Int) ≤ (m : Int)) := by omega
   go_wp2
   go_ret
   refine ⟨a', c', ?_, ?_, ho, ?_, TB.gr⟩
   ·rw [HRL.out]; rfl
   ·rw [HRL.out, HKK.out]; exact hx
   ·rw [HKK.out]; exact TB.ar
def hbk (x : Int) (c k : Nat) : List Int := (List.range k).map (fun j => x / 2 ^ (8 * (c - 1 - j)) % 256)
theorem hbk_succ (x : Int) (c k : Nat) : hbk x c (k + 1) = hbk x c k ++ [x / 2 ^ (8 * (c - 1 - k)) % 256] := by simp [hbk, List.range_succ]
theorem hbk_len (x : Int) (c k : Nat) : (hbk x c k).length = k := by simp [hbk]
theorem hbk_byte (x : Int) (c k : Nat) : ∀ y ∈ hbk x c k, 0 ≤ y ∧ y < 256 := by
 intro y hy
 simp only [hbk, List.mem_map] at hy
 obtain ⟨j, _, rfl⟩ := hy
 omega

theorem shr_min {x : Int} (h0 : 0 ≤ x) (h1 : x < 18446744073709551616) (n : Nat) : x / 2 ^ min n 64 = x / 2 ^ n := by
 by_cases h : n ≤ 64
 ·rw [show min n 64 = n by omega]
 ·have e1 : x / 2 ^ min n 64 = 0 := by
   rw [show min n 64 = 64 by omega]
   exact Int.ediv_eq_zero_of_lt h0 (by simpa using h1)
  have e2 : x / 2 ^ n = 0 := by
   refine Int.ediv_eq_zero_of_lt h0 ?_
   obtain ⟨d, rfl⟩ : ∃ d, n = 64 + d := ⟨n - 64, by omega⟩
   rw [Int.pow_add]
   have : (1 : Int) ≤ 2 ^ d := Int.pow_pos (by omega)
   have h64 : (2 : Int) ^ 64 = 18446744073709551616 := by decide
   rw [h64]
   omega
  rw [e1, e2]

set_option maxHeartbeats 1000000 in
theorem highFirst (base m : Nat) (v : Value) (xs : List Int) (x : Int) (c : Nat) (w : World) (hown : w.ownsRow base 5 1 v m (U8 xs)) (hbase : base ≤ w.heap.size) (hm : m ≤ 100000) (hc : c ≤ 16) (hx0 : 0 ≤ x) (hx1 : x < 18446744073709551616) :
  Calls Tryz.prog 109 #[v, .int .u64 x, .int .i64 (c : Int)] w fun e w' => ∃ v', e = .returned v' ∧ w'.ownsRow base 5 1 v' (m + c) (U8 (xs ++ hbk x c c)) ∧ Below base w w' := by
 have hc1 : IntKind.i64.wrap ((c : Int) - 1) = (c : Int) - 1 := by rw [IntKind.wrap_i64]; omega
 go_enter Tryz.func109, Tryz.ntmps109
 go_wp2
 go_loopw [0, 7] (fun v i wr => ∃ (k : Nat) (j : Int), k ≤ c ∧ j = (c : Int) - 1 - k ∧ i = .int .i64 j ∧ wr.ownsRow base 5 1 v (m + k) (U8 (xs ++ hbk x c k)) ∧ Below base w wr) (fun _ i _ => (intOf i + 1).toNat)
 case atStart => exact ⟨0, (c : Int) - 1, by omega, by omega, rfl, by simpa [hbk] using hown, Below.refl _ _⟩
 case round =>
  clear hown
  obtain ⟨k, j, hk, hj, rfl, hown, hb⟩ := hrel
  by_cases hlt : k < c
  ·obtain ⟨i, rfl⟩ : ∃ i : Nat, j = (i : Int) := ⟨c - 1 - k, by omega⟩
   have hi : c - 1 - k = i := by omega
   have hi15 : i ≤ 15 := by omega
   have hn := hbk_succ x c k
   rw [hi] at hn
   have HN : Hid _ := hn
   have HJ : Hid _ := hj
   have s1 : IntKind.i64.wrap (8 * (i : Int)) = 8 * (i : Int) := by rw [IntKind.wrap_i64]; omega
   have s2 : (8 * (i : Int)).toNat = 8 * i := by omega
   have s3 : ¬ 8 * (i : Int) < 0 := by omega
   have s4 : (0 : Int) ≤ (i : Int) := by omega
   have hsz := hb.size
   clear hn hj hi
   obtain ⟨y, hy⟩ : ∃ y, y = x / 2 ^ (8 * i) % 256 := ⟨_, rfl⟩
   have hyb : 0 ≤ y ∧ y < 256 := by omega
   have hyw : x / 2 ^ min (8 * i) 64 % 256 = y := by rw [hy, shr_min hx0 hx1]
   have s5 : wrap64 ((i : Int) - 1) = (i : Int) - 1 := by unfold wrap64; omega
   have HY : Hid _ := hy
   clear hy
   go_wp2_with (at_builtin; refine wpl_append_bs rfl _ _ rfl base _ (m + k) (xs ++ hbk x c k) rfl (some ⟨wr.heap.size, 0, none⟩) 1 1 [y] rfl (hown.alloc _) ?_ ?_ ?_ ?_)
   ·exact Bs.one _ _ hyb.1 hyb.2
   ·omega
   ·first | omega | (simp; omega)
   intro v' w' h1 h2 _
   have hb2 := below_app hb (by omega) hown h2
   have HR : Hid (w'.ownsRow base 5 1 v' (m + (k + 1)) (U8 (xs ++ hbk x c (k + 1)))) := by
    unfold Hid
    rw [HN.out, ← HY.out]; simpa [Nat.add_assoc] using h1
   clear h1 h2 hown hb
   go_wp2
   go_roundw
   case rel => exact ⟨k + 1, (i : Int) - 1, by omega, by have := HJ.out; omega, by go_num, HR.out, hb2⟩
   case measure => simp [intOf]
  ·obtain rfl : k = c := by omega
   have hj0 : ¬ ((0 : Int) ≤ j) := by omega
   clear hj
   go_wp2
   go_ret
   exact ⟨_, rfl, by simpa using hown, hb⟩
end Go.Proofs.YtihoaakbkffejaaGreatDoor
namespace Go.Proofs.YtihoaakbkffejaaGreatDoor
open Go.RowKit

set_option maxHeartbeats 400000 in
theorem cloneB (a : Option Addr) (n c : Nat) (xs : List Int) (w : World) (h : Bs w a n c xs) (hn : n ≤ 2098176) :
  Calls Tryz.prog 47 #[.slice a n c] w fun e w' => ∃ v, e = .returned v ∧ w'.ownsRow w.heap.size 5 1 v n (U8 xs) ∧ Below w.heap.size w w' := by
 have q22 : ∀ (w : World) (a : Option Addr) (n c n' c' : Nat), (binOp .eql 22 (.slice a n c) (.slice none n' c')).run Tryz.prog w = .ok (.bool a.isNone) w := fun w a n c n' c' => Lib.run_eql_slice_nil w _ _ a n c n' c' Tryz.underlying22
 cases a with
 | none =>
  obtain ⟨h0, hl, hc, _, _⟩ := h
  have hc0 := h0 rfl
  have hn0 : n = 0 := by omega
  subst hn0
  have hx : xs = [] := List.eq_nil_of_length_eq_zero hl
  subst hx
  go_enter Tryz.func47, Tryz.ntmps47
  go_wp2
  go_ret
  exact ⟨_, rfl, World.ownsRow_nil _ _ _ _, Below.refl _ _⟩
 | some ad =>
  have hB : Bs (w.alloc (Obj.cells #[] 5)) (some ad) n c xs := h.below ((Below.refl _ _).alloc (Nat.le_refl _) _)
  clear h
  go_enter Tryz.func47, Tryz.ntmps47
  go_wp2_with (at_builtin; refine wpl_append_bs rfl _ _ rfl w.heap.size _ 0 [] rfl (some ad) n c xs rfl ?_ hB ?_ ?_ ?_)
  ·exact World.ownsRow_made w #[] 0 (Nat.le_refl _) (by unfold maxLen; omega) rfl
  ·omega
  ·simp
  intro v1 w1 hown1 hgrow1 _
  have hbel1 : Below w.heap.size w w1 := ((Below.refl _ _).alloc (Nat.le_refl _) _).grown hgrow1 (by simp) (by intro k hk; simp [Value.ownBlock] at hk; omega)
  clear hgrow1 hB
  go_wp2
  go_ret
  exact ⟨_, rfl, hown1, hbel1⟩
set_option maxHeartbeats 400000 in
theorem growNil (n : Nat) (w : World) (hn : n ≤ 8388608) :
  Calls Tryz.prog 83 #[.slice none 0 0, .int .i64 n] w fun e w' => ∃ v, e = .returned v ∧ w'.ownsRow w.heap.size 5 1 v 0 (U8 []) ∧ Below w.heap.size w w' := by
 obtain ⟨i0, hi, hz0, hz1, hz2⟩ := info_parts Tryz.info5
 by_cases h0 : n = 0
 ·subst h0
  go_enter Tryz.func83, Tryz.ntmps83
  go_wp2
  go_ret
  exact ⟨_, rfl, World.ownsRow_nil _ _ _ _, Below.refl _ _⟩
 ·have hpos : (0 : Int) < (n : Int) := by omega
  have hrun : ∀ ty, (Builtin.append_ #[22, 3] ty #[.slice none 0 0, .int .i64 (n : Int)]).run Tryz.prog w =
    .ok (.slice (some ⟨w.heap.size, 0, none⟩) n (grownCap w n 0 5)) (w.drew.alloc (.cells (#[] ++ Builtin.zeroCells (Value.int .u8 0).cells n ++ Builtin.zeroCells (Value.int .u8 0).cells (grownCap w n 0 5 - n)) 5)) := fun ty => by
   have h := Lib.run_append_grow_zeros w 22 3 ty 5 i0 (.int .u8 0) .i64 .i64 Tryz.underlying22 Tryz.underlying3 hi hz0 none 0 0 [] (run_firstCells_none w.drew i0.size 0 0 0) n (by omega) (by omega) (by omega) (by omega) (by rw [hz2]; omega)
    (by rw [hz2]; exact growslice_fits (by omega) (by omega))
   simpa using h
  have hGn : n ≤ grownCap w n 0 5 := grownCap_ge w _ _ _
  have hGm : grownCap w n 0 5 ≤ maxLen := grownCap_le_maxLen w n 0 5 (by unfold maxLen; omega)
  obtain ⟨G, hG⟩ : ∃ G, G = grownCap w n 0 5 := ⟨_, rfl⟩
  rw [← hG] at hrun hGn hGm
  clear hG hi hz0 hz1 hz2
  obtain ⟨C, hC⟩ : ∃ C, C = (#[] ++ Builtin.zeroCells (Value.int .u8 0).cells n ++ Builtin.zeroCells (Value.int .u8 0).cells (G - n)) := ⟨_, rfl⟩
  rw [← hC] at hrun
  have hCs : C.size = G * 1 := by rw [hC]; simp [size_zeroCells, Value.cells]; omega
  have HC : Hid (C.size = G * 1) := hCs
  clear hC hCs
  have hGm' := hGm
  unfold maxLen at hGm
  go_enter Tryz.func83, Tryz.ntmps83
  go_wp2_with (at_builtin; refine Lib.wpList_append_run _ rfl _ _ _ _ rfl _ _ rfl rfl _ _ (hrun _) ?_)
  go_ret
  exact ⟨.slice (some ⟨w.heap.size, 0, none⟩) 0 G, rfl, (World.ownsRow_made (base := w.heap.size) (e := 5) (size := 1) w C G (Nat.le_refl _) hGm' HC.out).drew, ((Below.refl _ _).alloc (Nat.le_refl _) _).drew⟩

end Go.Proofs.YtihoaakbkffejaaGreatDoor

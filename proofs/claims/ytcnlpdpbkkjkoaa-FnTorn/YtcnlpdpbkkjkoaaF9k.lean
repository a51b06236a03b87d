/-
  What is proved here: what DrawProgram, DrawErase, DrawTornProgram and DrawTornErase answer: flashes, places and bytes that can be read; nothing that was there turns; for every code.
-/
import Derived.Test.YtcnlpdpbkkjkoaaF9j
namespace Go.Proofs.Ytcnlpdpbkkjkoaa
set_option maxRecDepth 100000
set_option maxHeartbeats 4000000
open Go.RowKit
set_option linter.unusedVariables false

theorem results_row_2 {P : Program} {fn : Func} {p u v : Tmp} {ty : TypeId} {w : World} {g : Nat} {t : TypeId} {cs : List Value} {d : TypeDesc} {x y : Value} {tmps : Array Value} (h : fn.results = #[.cell p ty, .tmp u, .tmp v])
    (hp : tmps.getD p undef = .pointer (some ⟨g, 0, none⟩)) (hx : tmps.getD u undef = x) (hy : tmps.getD v undef = y) (hg : Arr w g t cs) (hu : P.underlying ty = some d) (hd : (match d with | .struct _ | .array _ _ => true | _ => false) = true) (hi : (P.info? ty).map (·.size) = some cs.length) :
    (results fn tmps).run P w = .ok (.tuple #[.agg cs.toArray, x, y]) w := by
  have hl := run_loadVar_row (P := P) w g t ty cs.toArray (0, 0) d hg hu hd (by simpa using hi)
  have hp' : tmps[p]?.getD undef = .pointer (some ⟨g, 0, none⟩) := by simpa using hp
  have hx' : tmps[u]?.getD undef = x := by simpa using hx
  have hy' : tmps[v]?.getD undef = y := by simpa using hy
  simp [results, h, hp', hx', hy', asAddr, hl]
theorem results_row_3 {P : Program} {fn : Func} {p u v z : Tmp} {ty : TypeId} {w : World} {g : Nat} {t : TypeId} {cs : List Value} {d : TypeDesc} {x y k : Value} {tmps : Array Value} (h : fn.results = #[.cell p ty, .tmp u, .tmp v, .tmp z])
    (hp : tmps.getD p undef = .pointer (some ⟨g, 0, none⟩)) (hx : tmps.getD u undef = x) (hy : tmps.getD v undef = y) (hk : tmps.getD z undef = k) (hg : Arr w g t cs) (hu : P.underlying ty = some d) (hd : (match d with | .struct _ | .array _ _ => true | _ => false) = true) (hi : (P.info? ty).map (·.size) = some cs.length) :
    (results fn tmps).run P w = .ok (.tuple #[.agg cs.toArray, x, y, k]) w := by
  have hl := run_loadVar_row (P := P) w g t ty cs.toArray (0, 0) d hg hu hd (by simpa using hi)
  have hp' : tmps[p]?.getD undef = .pointer (some ⟨g, 0, none⟩) := by simpa using hp
  have hx' : tmps[u]?.getD undef = x := by simpa using hx
  have hy' : tmps[v]?.getD undef = y := by simpa using hy
  have hk' : tmps[z]?.getD undef = k := by simpa using hk
  simp [results, h, hp', hx', hy', hk', asAddr, hl]
/-- Bytes as they are read, behind a point of memory. -/
structure BsR (lo : Nat) (W : World) (a : Option Addr) (n c : Nat) (l : List Int) : Prop where
  b : Bs W a n c l
  l : ∀ x, a = some x → lo ≤ x.block
theorem BsR.grown {lo : Nat} {W W' : World} {a : Option Addr} {n c : Nat} {l : List Int} (h : BsR lo W a n c l) {p : Nat} (hg : W.grownBy W' (some p)) (hp : p < lo) : BsR lo W' a n c l := ⟨h.b.grownO hg (.inr fun x hx => by have := h.l x hx; omega), h.l⟩
theorem Msg.bsr {w W : World} {p n c : Nat} {a : Option Addr} {v : Value} {l : List Int} (h : Msg w W p a n c v l) : ∃ b d, v = .slice b l.length d ∧ BsR w.heap.size W b l.length d l := by
  obtain ⟨b, d, rfl, _, hb⟩ := Bs.own h.own h.byt
  exact ⟨b, d, rfl, hb, own_lo h.own⟩

theorem drawProgram (a : Option Addr) (n c : Nat) (xs : List Int) (w : World) (hb : Bs w a n c xs) (hm : n ≤ 9223372036854775807) :
    Calls Try.prog 15 #[.slice a n c] w fun e w' => ∃ (aB : Option Addr) (nB cB : Nat) (aW : Option Addr) (nW cW : Nat) (bs ws : List Int) (i0 : Int) (ab1 : Option Addr) (nb1 cb1 : Nat) (l1 : List Int), e = .returned (.tuple #[flV aB nB cB aW nW cW, .int .i64 i0, .slice ab1 nb1 cb1]) ∧ FlR w.heap.size w' aB nB cB aW nW cW bs ws ∧ (-9223372036854775808 ≤ i0 ∧ i0 ≤ 9223372036854775807) ∧ (Bs w' ab1 nb1 cb1 l1 ∧ nb1 ≤ 4096) ∧ Below w.heap.size w w' := by
  obtain ⟨V, hV⟩ : ∃ V, V = w.alloc (.cells #[.slice none 0 0, .slice none 0 0] 25) := ⟨_, rfl⟩
  have B : Below w.heap.size w V := by rw [hV]; exact (Below.refl _ _).alloc (Nat.le_refl _) _
  have R : Arr V w.heap.size 25 [.slice none 0 0, .slice none 0 0] := by rw [hV]; exact Arr.new _ _ _
  have zV : w.heap.size + 1 ≤ V.heap.size := by rw [hV]; simp
  go_enter Try.func15, Try.ntmps15
  go_wp2_with fail
  rw [← hV]
  clear hV
  refine (curNew a n c xs _ (hb.below B) hm).mono ?_
  rintro e w1 ⟨rfl, C, K, zs, b1⟩
  replace B := B.trans (b1.mono B.size)
  replace R := R.kept b1
  have z1 : V.heap.size + 1 ≤ w1.heap.size := by omega
  obtain ⟨p, hp⟩ : ∃ p, p = V.heap.size := ⟨_, rfl⟩
  rw [← hp] at C K z1 zV ⊢
  clear hp b1 zs
  go_wp2_with fail
  refine (curBent9 p a n c xs _ C K).mono ?_
  rintro e w2 ⟨aB, nB, cB, aW, nW, cW, bs, ws, rfl, FR, C2, G2⟩
  replace K := K.grown G2
  replace B := B.grown G2 B.size (fun k hk => by injection hk with hk; omega)
  replace R := R.grown G2 (by omega)
  have z2 := G2.size
  clear C G2
  have C := C2
  clear C2
  go_wp2_with fail
  refine (curAt9 p a n c xs _ C K).mono ?_
  rintro e w3 ⟨i0, rfl, h0a, h0b, C2, G2⟩
  replace K := K.grown G2
  replace B := B.grown G2 B.size (fun k hk => by injection hk with hk; omega)
  replace R := R.grown G2 (by omega)
  replace FR := FR.grown G2 (by omega)
  have z4 := G2.size
  clear C G2
  have C := C2
  clear C2
  go_wp2_with fail
  refine (curMsg p a n c xs _ C K).mono ?_
  rintro e w4 ⟨v, l1, rfl, hl1, A⟩
  have G2 := A.gr
  have C2 := A.cur
  obtain ⟨ab1, cb1, rfl, Q1⟩ := A.bsr
  replace K := K.grown G2
  replace B := B.grown G2 B.size (fun k hk => by injection hk with hk; omega)
  replace R := R.grown G2 (by omega)
  replace FR := FR.grown G2 (by omega)
  have z5 := G2.size
  clear C G2 A
  have C := C2
  clear C2
  have dR := arr2 R
  have fR := R.frozen
  have lR := R.lt
  have KK : Arr ((w4.setCell ⟨w.heap.size, 0, none⟩ (.slice aB nB cB)).setCell ⟨w.heap.size, 1, none⟩ (.slice aW nW cW)) w.heap.size 25 [.slice aB nB cB, .slice aW nW cW] := (R.set 0 _).set 1 _
  have g1 := cur_grown2 w4 w.heap.size (.slice aB nB cB) 0
  have g2 := cur_grown2 (w4.setCell ⟨w.heap.size, 0, none⟩ (.slice aB nB cB)) w.heap.size (.slice aW nW cW) 1
  have BF := (B.setCell (p := ⟨w.heap.size, 0, none⟩) (Nat.le_refl _) (.slice aB nB cB)).setCell (p := ⟨w.heap.size, 1, none⟩) (Nat.le_refl _) (.slice aW nW cW)
  have FF := (FR.grown g1 (by omega)).grown g2 (by omega)
  have Q1F := (Q1.grown g1 (by omega)).grown g2 (by omega)
  have HQ1 : Hid _ := Q1F
  clear Q1F Q1
  have HK : Hid _ := KK
  have HB : Hid _ := BF
  have HF : Hid _ := FF
  clear KK BF FF g1 g2 R B K C FR
  go_wp2
  exact bodyPost_ret (results_row_2 (t := 25) (cs := [.slice aB nB cB, .slice aW nW cW]) rfl rfl rfl rfl HK.out Try.underlying25 rfl (by kernel_rfl)) rfl ⟨aB, nB, cB, aW, nW, cW, bs, ws, i0, ab1, l1.length, cb1, l1, rfl, ⟨HF.out.b, HF.out.w, HF.out.nb, HF.out.nw, fun x hx => Nat.le_trans (by omega) (HF.out.lb x hx), fun x hx => Nat.le_trans (by omega) (HF.out.lw x hx)⟩, ⟨h0a, h0b⟩, ⟨HQ1.out.b, by omega⟩, HB.out⟩

theorem drawErase (a : Option Addr) (n c : Nat) (xs : List Int) (w : World) (hb : Bs w a n c xs) (hm : n ≤ 9223372036854775807) :
    Calls Try.prog 20 #[.slice a n c] w fun e w' => ∃ (aB : Option Addr) (nB cB : Nat) (aW : Option Addr) (nW cW : Nat) (bs ws : List Int) (i0 : Int), e = .returned (.tuple #[flV aB nB cB aW nW cW, .int .i64 i0]) ∧ FlR w.heap.size w' aB nB cB aW nW cW bs ws ∧ (-9223372036854775808 ≤ i0 ∧ i0 ≤ 9223372036854775807) ∧ Below w.heap.size w w' := by
  obtain ⟨V, hV⟩ : ∃ V, V = w.alloc (.cells #[.slice none 0 0, .slice none 0 0] 25) := ⟨_, rfl⟩
  have B : Below w.heap.size w V := by rw [hV]; exact (Below.refl _ _).alloc (Nat.le_refl _) _
  have R : Arr V w.heap.size 25 [.slice none 0 0, .slice none 0 0] := by rw [hV]; exact Arr.new _ _ _
  have zV : w.heap.size + 1 ≤ V.heap.size := by rw [hV]; simp
  go_enter Try.func20, Try.ntmps20
  go_wp2_with fail
  rw [← hV]
  clear hV
  refine (curNew a n c xs _ (hb.below B) hm).mono ?_
  rintro e w1 ⟨rfl, C, K, zs, b1⟩
  replace B := B.trans (b1.mono B.size)
  replace R := R.kept b1
  have z1 : V.heap.size + 1 ≤ w1.heap.size := by omega
  obtain ⟨p, hp⟩ : ∃ p, p = V.heap.size := ⟨_, rfl⟩
  rw [← hp] at C K z1 zV ⊢
  clear hp b1 zs
  go_wp2_with fail
  refine (curBent9 p a n c xs _ C K).mono ?_
  rintro e w2 ⟨aB, nB, cB, aW, nW, cW, bs, ws, rfl, FR, C2, G2⟩
  replace K := K.grown G2
  replace B := B.grown G2 B.size (fun k hk => by injection hk with hk; omega)
  replace R := R.grown G2 (by omega)
  have z2 := G2.size
  clear C G2
  have C := C2
  clear C2
  have hcell := cells_arr w2 [0, 1, 2, 47, 48, -1, 20] 3
  have bL : Below w2.heap.size w2 (w2.alloc (.cells (([0, 1, 2, 47, 48, -1, 20] : List Int).map (Value.int .i64)).toArray 3)) := (Below.refl _ _).alloc (Nat.le_refl _) _
  obtain ⟨X, hX⟩ : ∃ X, X = w2.alloc (.cells (([0, 1, 2, 47, 48, -1, 20] : List Int).map (Value.int .i64)).toArray 3) := ⟨_, rfl⟩
  rw [← hX] at hcell bL
  replace K := K.grown (grown_of_below bL)
  replace B := B.trans (bL.mono B.size)
  replace R := R.kept bL
  replace FR := FR.below bL
  have hpl := cur_lt C
  have CX := cur_keep C (grown_of_below (row := none) bL) (by simp)
  have zX := bL.size
  clear bL
  go_wp2_with fail
  rw [show w2.alloc (.cells #[.int .i64 0, .int .i64 1, .int .i64 2, .int .i64 47, .int .i64 48, .int .i64 (-1), .int .i64 20] 3) = X from hX.symm]
  clear hX
  refine (curPick p a n c xs w2.heap.size 7 [0, 1, 2, 47, 48, -1, 20] _ CX K rfl (by omega) (by omega) (by omega) (fun j hj => hcell j hj)).mono ?_
  rintro e w3 ⟨i0, rfl, hi0, C2, G2⟩
  have h0 : -9223372036854775808 ≤ i0 ∧ i0 ≤ 9223372036854775807 := by
    simp only [List.mem_cons, List.not_mem_nil, or_false] at hi0
    omega
  obtain ⟨h0a, h0b⟩ := h0
  replace K := K.grown G2
  replace B := B.grown G2 B.size (fun k hk => by injection hk with hk; omega)
  replace R := R.grown G2 (by omega)
  replace FR := FR.grown G2 (by omega)
  have z4 := G2.size
  clear C G2 hcell CX hi0
  have C := C2
  clear C2
  have dR := arr2 R
  have fR := R.frozen
  have lR := R.lt
  have KK : Arr ((w3.setCell ⟨w.heap.size, 0, none⟩ (.slice aB nB cB)).setCell ⟨w.heap.size, 1, none⟩ (.slice aW nW cW)) w.heap.size 25 [.slice aB nB cB, .slice aW nW cW] := (R.set 0 _).set 1 _
  have g1 := cur_grown2 w3 w.heap.size (.slice aB nB cB) 0
  have g2 := cur_grown2 (w3.setCell ⟨w.heap.size, 0, none⟩ (.slice aB nB cB)) w.heap.size (.slice aW nW cW) 1
  have BF := (B.setCell (p := ⟨w.heap.size, 0, none⟩) (Nat.le_refl _) (.slice aB nB cB)).setCell (p := ⟨w.heap.size, 1, none⟩) (Nat.le_refl _) (.slice aW nW cW)
  have FF := (FR.grown g1 (by omega)).grown g2 (by omega)
  have HK : Hid _ := KK
  have HB : Hid _ := BF
  have HF : Hid _ := FF
  clear KK BF FF g1 g2 R B K C FR
  go_wp2
  exact bodyPost_ret (results_row_tmp (t := 25) (cs := [.slice aB nB cB, .slice aW nW cW]) rfl rfl rfl HK.out Try.underlying25 rfl (by kernel_rfl)) rfl ⟨aB, nB, cB, aW, nW, cW, bs, ws, i0, rfl, ⟨HF.out.b, HF.out.w, HF.out.nb, HF.out.nw, fun x hx => Nat.le_trans (by omega) (HF.out.lb x hx), fun x hx => Nat.le_trans (by omega) (HF.out.lw x hx)⟩, ⟨h0a, h0b⟩, HB.out⟩

theorem drawTornProgram (a : Option Addr) (n c : Nat) (xs : List Int) (w : World) (hb : Bs w a n c xs) (hm : n ≤ 9223372036854775807) :
    Calls Try.prog 26 #[.slice a n c] w fun e w' => ∃ (aB : Option Addr) (nB cB : Nat) (aW : Option Addr) (nW cW : Nat) (bs ws : List Int) (i0 : Int) (ab1 : Option Addr) (nb1 cb1 : Nat) (l1 : List Int) (ab2 : Option Addr) (nb2 cb2 : Nat) (l2 : List Int), e = .returned (.tuple #[flV aB nB cB aW nW cW, .int .i64 i0, .slice ab1 nb1 cb1, .slice ab2 nb2 cb2]) ∧ FlR w.heap.size w' aB nB cB aW nW cW bs ws ∧ (-9223372036854775808 ≤ i0 ∧ i0 ≤ 9223372036854775807) ∧ (Bs w' ab1 nb1 cb1 l1 ∧ nb1 ≤ 4096) ∧ (Bs w' ab2 nb2 cb2 l2 ∧ nb2 ≤ 4096) ∧ Below w.heap.size w w' := by
  obtain ⟨V, hV⟩ : ∃ V, V = w.alloc (.cells #[.slice none 0 0, .slice none 0 0] 25) := ⟨_, rfl⟩
  have B : Below w.heap.size w V := by rw [hV]; exact (Below.refl _ _).alloc (Nat.le_refl _) _
  have R : Arr V w.heap.size 25 [.slice none 0 0, .slice none 0 0] := by rw [hV]; exact Arr.new _ _ _
  have zV : w.heap.size + 1 ≤ V.heap.size := by rw [hV]; simp
  go_enter Try.func26, Try.ntmps26
  go_wp2_with fail
  rw [← hV]
  clear hV
  refine (curNew a n c xs _ (hb.below B) hm).mono ?_
  rintro e w1 ⟨rfl, C, K, zs, b1⟩
  replace B := B.trans (b1.mono B.size)
  replace R := R.kept b1
  have z1 : V.heap.size + 1 ≤ w1.heap.size := by omega
  obtain ⟨p, hp⟩ : ∃ p, p = V.heap.size := ⟨_, rfl⟩
  rw [← hp] at C K z1 zV ⊢
  clear hp b1 zs
  go_wp2_with fail
  refine (curBent9 p a n c xs _ C K).mono ?_
  rintro e w2 ⟨aB, nB, cB, aW, nW, cW, bs, ws, rfl, FR, C2, G2⟩
  replace K := K.grown G2
  replace B := B.grown G2 B.size (fun k hk => by injection hk with hk; omega)
  replace R := R.grown G2 (by omega)
  have z2 := G2.size
  clear C G2
  have C := C2
  clear C2
  go_wp2_with fail
  refine (curAt9 p a n c xs _ C K).mono ?_
  rintro e w3 ⟨i0, rfl, h0a, h0b, C2, G2⟩
  replace K := K.grown G2
  replace B := B.grown G2 B.size (fun k hk => by injection hk with hk; omega)
  replace R := R.grown G2 (by omega)
  replace FR := FR.grown G2 (by omega)
  have z4 := G2.size
  clear C G2
  have C := C2
  clear C2
  go_wp2_with fail
  refine (curMsg p a n c xs _ C K).mono ?_
  rintro e w4 ⟨v, l1, rfl, hl1, A⟩
  have G2 := A.gr
  have C2 := A.cur
  obtain ⟨ab1, cb1, rfl, Q1⟩ := A.bsr
  replace K := K.grown G2
  replace B := B.grown G2 B.size (fun k hk => by injection hk with hk; omega)
  replace R := R.grown G2 (by omega)
  replace FR := FR.grown G2 (by omega)
  have z5 := G2.size
  clear C G2 A
  have C := C2
  clear C2
  go_wp2_with fail
  refine (curMask9 p a n c xs _ C K).mono ?_
  rintro e w5 ⟨v, l2, rfl, hl2, A⟩
  have G2 := A.gr
  have C2 := A.cur
  obtain ⟨ab2, cb2, rfl, Q2⟩ := A.bsr
  replace K := K.grown G2
  replace B := B.grown G2 B.size (fun k hk => by injection hk with hk; omega)
  replace R := R.grown G2 (by omega)
  replace FR := FR.grown G2 (by omega)
  replace Q1 := Q1.grown G2 (by omega)
  have z6 := G2.size
  clear C G2 A
  have C := C2
  clear C2
  have dR := arr2 R
  have fR := R.frozen
  have lR := R.lt
  have KK : Arr ((w5.setCell ⟨w.heap.size, 0, none⟩ (.slice aB nB cB)).setCell ⟨w.heap.size, 1, none⟩ (.slice aW nW cW)) w.heap.size 25 [.slice aB nB cB, .slice aW nW cW] := (R.set 0 _).set 1 _
  have g1 := cur_grown2 w5 w.heap.size (.slice aB nB cB) 0
  have g2 := cur_grown2 (w5.setCell ⟨w.heap.size, 0, none⟩ (.slice aB nB cB)) w.heap.size (.slice aW nW cW) 1
  have BF := (B.setCell (p := ⟨w.heap.size, 0, none⟩) (Nat.le_refl _) (.slice aB nB cB)).setCell (p := ⟨w.heap.size, 1, none⟩) (Nat.le_refl _) (.slice aW nW cW)
  have FF := (FR.grown g1 (by omega)).grown g2 (by omega)
  have Q1F := (Q1.grown g1 (by omega)).grown g2 (by omega)
  have HQ1 : Hid _ := Q1F
  clear Q1F Q1
  have Q2F := (Q2.grown g1 (by omega)).grown g2 (by omega)
  have HQ2 : Hid _ := Q2F
  clear Q2F Q2
  have HK : Hid _ := KK
  have HB : Hid _ := BF
  have HF : Hid _ := FF
  clear KK BF FF g1 g2 R B K C FR
  go_wp2
  exact bodyPost_ret (results_row_3 (t := 25) (cs := [.slice aB nB cB, .slice aW nW cW]) rfl rfl rfl rfl rfl HK.out Try.underlying25 rfl (by kernel_rfl)) rfl ⟨aB, nB, cB, aW, nW, cW, bs, ws, i0, ab1, l1.length, cb1, l1, ab2, l2.length, cb2, l2, rfl, ⟨HF.out.b, HF.out.w, HF.out.nb, HF.out.nw, fun x hx => Nat.le_trans (by omega) (HF.out.lb x hx), fun x hx => Nat.le_trans (by omega) (HF.out.lw x hx)⟩, ⟨h0a, h0b⟩, ⟨HQ1.out.b, by omega⟩, ⟨HQ2.out.b, by omega⟩, HB.out⟩

theorem drawTornErase (a : Option Addr) (n c : Nat) (xs : List Int) (w : World) (hb : Bs w a n c xs) (hm : n ≤ 9223372036854775807) :
    Calls Try.prog 28 #[.slice a n c] w fun e w' => ∃ (aB : Option Addr) (nB cB : Nat) (aW : Option Addr) (nW cW : Nat) (bs ws : List Int) (i0 : Int) (ab1 : Option Addr) (nb1 cb1 : Nat) (l1 : List Int), e = .returned (.tuple #[flV aB nB cB aW nW cW, .int .i64 i0, .slice ab1 nb1 cb1]) ∧ FlR w.heap.size w' aB nB cB aW nW cW bs ws ∧ (-9223372036854775808 ≤ i0 ∧ i0 ≤ 9223372036854775807) ∧ (Bs w' ab1 nb1 cb1 l1 ∧ nb1 ≤ 4096) ∧ Below w.heap.size w w' := by
  obtain ⟨V, hV⟩ : ∃ V, V = w.alloc (.cells #[.slice none 0 0, .slice none 0 0] 25) := ⟨_, rfl⟩
  have B : Below w.heap.size w V := by rw [hV]; exact (Below.refl _ _).alloc (Nat.le_refl _) _
  have R : Arr V w.heap.size 25 [.slice none 0 0, .slice none 0 0] := by rw [hV]; exact Arr.new _ _ _
  have zV : w.heap.size + 1 ≤ V.heap.size := by rw [hV]; simp
  go_enter Try.func28, Try.ntmps28
  go_wp2_with fail
  rw [← hV]
  clear hV
  refine (curNew a n c xs _ (hb.below B) hm).mono ?_
  rintro e w1 ⟨rfl, C, K, zs, b1⟩
  replace B := B.trans (b1.mono B.size)
  replace R := R.kept b1
  have z1 : V.heap.size + 1 ≤ w1.heap.size := by omega
  obtain ⟨p, hp⟩ : ∃ p, p = V.heap.size := ⟨_, rfl⟩
  rw [← hp] at C K z1 zV ⊢
  clear hp b1 zs
  go_wp2_with fail
  refine (curBent9 p a n c xs _ C K).mono ?_
  rintro e w2 ⟨aB, nB, cB, aW, nW, cW, bs, ws, rfl, FR, C2, G2⟩
  replace K := K.grown G2
  replace B := B.grown G2 B.size (fun k hk => by injection hk with hk; omega)
  replace R := R.grown G2 (by omega)
  have z2 := G2.size
  clear C G2
  have C := C2
  clear C2
  have hcell := cells_arr w2 [0, 1, 2, 47, 48, -1, 20] 3
  have bL : Below w2.heap.size w2 (w2.alloc (.cells (([0, 1, 2, 47, 48, -1, 20] : List Int).map (Value.int .i64)).toArray 3)) := (Below.refl _ _).alloc (Nat.le_refl _) _
  obtain ⟨X, hX⟩ : ∃ X, X = w2.alloc (.cells (([0, 1, 2, 47, 48, -1, 20] : List Int).map (Value.int .i64)).toArray 3) := ⟨_, rfl⟩
  rw [← hX] at hcell bL
  replace K := K.grown (grown_of_below bL)
  replace B := B.trans (bL.mono B.size)
  replace R := R.kept bL
  replace FR := FR.below bL
  have hpl := cur_lt C
  have CX := cur_keep C (grown_of_below (row := none) bL) (by simp)
  have zX := bL.size
  clear bL
  go_wp2_with fail
  rw [show w2.alloc (.cells #[.int .i64 0, .int .i64 1, .int .i64 2, .int .i64 47, .int .i64 48, .int .i64 (-1), .int .i64 20] 3) = X from hX.symm]
  clear hX
  refine (curPick p a n c xs w2.heap.size 7 [0, 1, 2, 47, 48, -1, 20] _ CX K rfl (by omega) (by omega) (by omega) (fun j hj => hcell j hj)).mono ?_
  rintro e w3 ⟨i0, rfl, hi0, C2, G2⟩
  have h0 : -9223372036854775808 ≤ i0 ∧ i0 ≤ 9223372036854775807 := by
    simp only [List.mem_cons, List.not_mem_nil, or_false] at hi0
    omega
  obtain ⟨h0a, h0b⟩ := h0
  replace K := K.grown G2
  replace B := B.grown G2 B.size (fun k hk => by injection hk with hk; omega)
  replace R := R.grown G2 (by omega)
  replace FR := FR.grown G2 (by omega)
  have z4 := G2.size
  clear C G2 hcell CX hi0
  have C := C2
  clear C2
  go_wp2_with fail
  refine (curMask9 p a n c xs _ C K).mono ?_
  rintro e w4 ⟨v, l1, rfl, hl1, A⟩
  have G2 := A.gr
  have C2 := A.cur
  obtain ⟨ab1, cb1, rfl, Q1⟩ := A.bsr
  replace K := K.grown G2
  replace B := B.grown G2 B.size (fun k hk => by injection hk with hk; omega)
  replace R := R.grown G2 (by omega)
  replace FR := FR.grown G2 (by omega)
  have z5 := G2.size
  clear C G2 A
  have C := C2
  clear C2
  have dR := arr2 R
  have fR := R.frozen
  have lR := R.lt
  have KK : Arr ((w4.setCell ⟨w.heap.size, 0, none⟩ (.slice aB nB cB)).setCell ⟨w.heap.size, 1, none⟩ (.slice aW nW cW)) w.heap.size 25 [.slice aB nB cB, .slice aW nW cW] := (R.set 0 _).set 1 _
  have g1 := cur_grown2 w4 w.heap.size (.slice aB nB cB) 0
  have g2 := cur_grown2 (w4.setCell ⟨w.heap.size, 0, none⟩ (.slice aB nB cB)) w.heap.size (.slice aW nW cW) 1
  have BF := (B.setCell (p := ⟨w.heap.size, 0, none⟩) (Nat.le_refl _) (.slice aB nB cB)).setCell (p := ⟨w.heap.size, 1, none⟩) (Nat.le_refl _) (.slice aW nW cW)
  have FF := (FR.grown g1 (by omega)).grown g2 (by omega)
  have Q1F := (Q1.grown g1 (by omega)).grown g2 (by omega)
  have HQ1 : Hid _ := Q1F
  clear Q1F Q1
  have HK : Hid _ := KK
  have HB : Hid _ := BF
  have HF : Hid _ := FF
  clear KK BF FF g1 g2 R B K C FR
  go_wp2
  exact bodyPost_ret (results_row_2 (t := 25) (cs := [.slice aB nB cB, .slice aW nW cW]) rfl rfl rfl rfl HK.out Try.underlying25 rfl (by kernel_rfl)) rfl ⟨aB, nB, cB, aW, nW, cW, bs, ws, i0, ab1, l1.length, cb1, l1, rfl, ⟨HF.out.b, HF.out.w, HF.out.nb, HF.out.nw, fun x hx => Nat.le_trans (by omega) (HF.out.lb x hx), fun x hx => Nat.le_trans (by omega) (HF.out.lw x hx)⟩, ⟨h0a, h0b⟩, ⟨HQ1.out.b, by omega⟩, HB.out⟩
end Go.Proofs.Ytcnlpdpbkkjkoaa

/-
  What is proved here: contracts of DrawCommon, DrawHasPrefix, DrawNumLen, DrawPutNum, DrawPutText, DrawHex: rows of bytes of the call's own, short; nothing that was there turns; for every code.
-/
import Derived.Test.YtjgoliajgfeehaaDraw
import Derived.Test.YtjgoliajgfeehaaTail
import Derived.Test.YtjgoliajgfeehaaPre
namespace Go.Proofs.Ytjgoliajgfeehaa
open Go.RowKit

/-- While something is drawn: the cursor lies behind all that was there, which is as it was. -/
structure Dw (w W : World) (a : Option Addr) (n c : Nat) : Prop where
  fr : Below w.heap.size w W
  cur : Cur W w.heap.size a n c

theorem coded_of {w W : World} {a : Option Addr} {n c : Nat} {xs : List Int} (h : Bs w a n c xs) (hm : n ≤ 9223372036854775807) (hb : Below w.heap.size w W) : Coded W w.heap.size a n c xs := by
  refine ⟨h.below hb, hm, ?_⟩
  intro b o s ha hn
  obtain ⟨_, _, _, _, h⟩ := h
  rcases h with h | ⟨b', o', ha', hbs, _⟩
  · exact absurd h hn
  · rw [ha'] at ha
    simp only [Option.some.injEq, Addr.mk.injEq] at ha
    omega

theorem Dw.draw {w W W' : World} {a : Option Addr} {n c : Nat} (h : Dw w W a n c) (hc : Cur W' w.heap.size a n c) (hg : W.grownBy W' (some w.heap.size)) : Dw w W' a n c :=
  ⟨h.fr.grown hg h.fr.size (fun k hk => by simp at hk; omega), hc⟩

theorem Dw.alloc {w W : World} {a : Option Addr} {n c : Nat} (h : Dw w W a n c) (o : Obj) : Dw w (W.alloc o) a n c :=
  ⟨h.fr.alloc h.fr.size o, cur_keep h.cur (grown_alloc W o none) (by simp)⟩

theorem Dw.app {w W W' : World} {a : Option Addr} {n c m : Nat} {v : Value} {l : List Value} (h : Dw w W a n c) (ho : W.ownsRow (w.heap.size + 1) 5 1 v m l) (hg : W.grownBy W' v.ownBlock) : Dw w W' a n c :=
  ⟨h.fr.grown hg h.fr.size (fun k hk => by have := (ho.lt k hk).1; omega), cur_keep h.cur hg (fun e => by have := (ho.lt _ e).1; omega)⟩

theorem Dw.lt {w W : World} {a : Option Addr} {n c : Nat} (h : Dw w W a n c) : w.heap.size + 1 ≤ W.heap.size := cur_lt h.cur

theorem own_draw {W W' : World} {p m : Nat} {v : Value} {l : List Value} (h : W.ownsRow (p + 1) 5 1 v m l) (hg : W.grownBy W' (some p)) : W'.ownsRow (p + 1) 5 1 v m l :=
  h.kept hg (by
    cases hv : v.ownBlock with
    | none => exact .inl rfl
    | some k => exact .inr (fun e => by have := (h.lt k hv).1; simp at e; omega))

/-- A row of bytes of the call's own. -/
def Rw (w W : World) (v : Value) (l : List Int) : Prop := W.ownsRow (w.heap.size + 1) 5 1 v l.length (U8 l) ∧ ∀ x ∈ l, 0 ≤ x ∧ x < 256

theorem Rw.draw {w W W' : World} {v : Value} {l : List Int} (h : Rw w W v l) (hg : W.grownBy W' (some w.heap.size)) : Rw w W' v l := ⟨own_draw h.1 hg, h.2⟩
theorem Rw.alloc {w W : World} {v : Value} {l : List Int} (h : Rw w W v l) (o : Obj) : Rw w (W.alloc o) v l := ⟨h.1.alloc o, h.2⟩
theorem Rw.kept {w W W' : World} {u v : Value} {l : List Int} (h : Rw w W v l) (hg : W.grownBy W' u.ownBlock) (ha : Apart u v) : Rw w W' v l := ⟨own_kept h.1 hg ha, h.2⟩
theorem Rw.slice {w W : World} {v : Value} {l : List Int} (h : Rw w W v l) : ∃ a c, v = .slice a l.length c ∧ Ad a l.length c ∧ Bs W a l.length c l := by
  obtain ⟨a, c, rfl, _, hb⟩ := Bs.own h.1 h.2
  exact ⟨a, c, rfl, own_ad h.1, hb⟩

set_option maxHeartbeats 1000000 in
theorem drawHex (a : Option Addr) (n c : Nat) (xs : List Int) (w : World) (h : Bs w a n c xs) (hm : n ≤ 9223372036854775807) :
    Calls Try.prog 29 #[.slice a n c] w fun e w' => ∃ v l, e = .returned v ∧ l.length ≤ 9 ∧ Rw w w' v l ∧ Below w.heap.size w w' := by
  go_enter Try.func29, Try.ntmps29
  go_wp2_with fail
  refine (curNew a n c xs _ h hm).mono ?_
  rintro e w1 ⟨rfl, hc1, hd1, hs1, hb1⟩
  have D1 : Dw w w1 a n c := ⟨hb1, hc1⟩
  go_wp2_with fail
  refine (curSome w.heap.size a n c xs 9 _ hc1 hd1 (by omega)).mono ?_
  rintro e w2 ⟨v, l, rfl, hl, hlb, ho, hc2, hg2⟩
  have D2 := D1.draw hc2 hg2
  have R : Rw w w2 v l := ⟨own_base ho (by omega), hlb⟩
  clear hc1 hd1 hb1 D1 ho hc2 hg2 hlb
  go_wp2
  go_ret
  exact ⟨_, l, rfl, hl, R, D2.fr⟩

set_option maxHeartbeats 1000000 in
theorem drawNumLen (a : Option Addr) (n c : Nat) (xs : List Int) (w : World) (h : Bs w a n c xs) (hm : n ≤ 9223372036854775807) :
    Calls Try.prog 26 #[.slice a n c] w fun e w' => ∃ x : Int, e = .returned (.int .i64 x) ∧ -9223372036854775808 ≤ x ∧ x ≤ 9223372036854775807 ∧ Below w.heap.size w w' := by
  go_enter Try.func26, Try.ntmps26
  go_wp2_with fail
  refine (curNew a n c xs _ h hm).mono ?_
  rintro e w1 ⟨rfl, hc1, hd1, hs1, hb1⟩
  have D1 : Dw w w1 a n c := ⟨hb1, hc1⟩
  go_wp2_with fail
  refine (curNum w.heap.size a n c xs _ hc1 hd1).mono ?_
  rintro e w2 ⟨x, rfl, hx0, hx1, hc2, hg2⟩
  have D2 := D1.draw hc2 hg2
  clear hc1 hd1 hb1 D1 hc2 hg2
  go_wp2
  go_ret
  exact ⟨x, rfl, hx0, hx1, D2.fr⟩

set_option maxHeartbeats 1000000 in
theorem drawPutNum (a : Option Addr) (n c : Nat) (xs : List Int) (w : World) (h : Bs w a n c xs) (hm : n ≤ 9223372036854775807) :
    Calls Try.prog 15 #[.slice a n c] w fun e w' => ∃ v l, ∃ x : Int, e = .returned (.tuple #[v, .int .i64 x]) ∧ l.length ≤ 4 ∧ Rw w w' v l ∧ -9223372036854775808 ≤ x ∧ x ≤ 9223372036854775807 ∧ Below w.heap.size w w' := by
  go_enter Try.func15, Try.ntmps15
  go_wp2_with fail
  refine (curNew a n c xs _ h hm).mono ?_
  rintro e w1 ⟨rfl, hc1, hd1, hs1, hb1⟩
  have D1 : Dw w w1 a n c := ⟨hb1, hc1⟩
  go_wp2_with fail
  refine (curSome w.heap.size a n c xs 4 _ hc1 hd1 (by omega)).mono ?_
  rintro e w2 ⟨v, l, rfl, hl, hlb, ho, hc2, hg2⟩
  have D2 := D1.draw hc2 hg2
  have R : Rw w w2 v l := ⟨own_base ho (by omega), hlb⟩
  clear hc1 hd1 hb1 D1 ho hg2 hlb
  go_wp2_with fail
  refine (curNum w.heap.size a n c xs _ hc2 (coded_of h hm D2.fr)).mono ?_
  rintro e w3 ⟨x, rfl, hx0, hx1, hc3, hg3⟩
  have D3 := D2.draw hc3 hg3
  have R3 := R.draw hg3
  clear hc2 D2 R hc3 hg3
  go_wp2
  go_ret2
  exact ⟨_, l, x, rfl, hl, R3, hx0, hx1, D3.fr⟩
end Go.Proofs.Ytjgoliajgfeehaa

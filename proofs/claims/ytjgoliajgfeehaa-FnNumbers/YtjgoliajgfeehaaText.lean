/-
  What is proved here: contracts of the specification's and of the program's PutText and GetText, for slices of at most 2^20 bytes.
-/
import Derived.Test.YtjgoliajgfeehaaCat
import Derived.Test.YtjgoliajgfeehaaGet2
import Derived.Test.YtjgoliajgfeehaaTextM
namespace Go.Proofs.Ytjgoliajgfeehaa
open Go.RowKit
open Ma

set_option maxHeartbeats 400000 in
theorem specPutT (a a' : Option Addr) (n c n' c' : Nat) (xs ts : List Int) (w : World) (h : Bs w a n c xs) (h' : Bs w a' n' c' ts) (hn : n ≤ 1048576) (hn' : n' ≤ 1048576) :
    Calls Try.prog 39 #[.slice a n c, .slice a' n' c'] w fun e w' => ∃ v, e = .returned v ∧ w'.ownsRow w.heap.size 5 1 v (putT xs ts).length (U8 (putT xs ts)) ∧ Below w.heap.size w w' := by
  have hl := h.2.1
  have hl' := h'.2.1
  by_cases hbig : (64 : Int) < (n' : Int)
  · have hp : putT xs ts = xs := by unfold putT; rw [if_pos (by omega)]
    rw [hp, hl]
    have hB : Bs (w.alloc (Obj.cells #[] 5)) a n c xs := h.below ((Below.refl _ _).alloc (Nat.le_refl _) _)
    clear h h' hp
    go_enter Try.func39, Try.ntmps39
    go_wp2_with (at_builtin; refine wpl_append_bs rfl _ _ rfl w.heap.size _ 0 [] rfl a n c xs rfl ?_ hB ?_ ?_ ?_)
    · exact World.ownsRow_made w #[] 0 (Nat.le_refl _) (by unfold maxLen; omega) rfl
    · omega
    · simp
    intro v1 w1 hown1 hgrow1 _
    have hbel1 : Below w.heap.size w w1 := ((Below.refl _ _).alloc (Nat.le_refl _) _).grown hgrow1 (by simp) (by intro k hk; simp [Value.ownBlock] at hk; omega)
    clear hgrow1 hB
    go_wp2
    go_ret
    exact ⟨_, rfl, hown1, hbel1⟩
  · have hp : putT xs ts = xs ++ numB ts.length ++ ts := by unfold putT; rw [if_neg (by omega)]
    have hb := numB_len (n' : Int)
    have hput := specPut a n c xs (n' : Int) w h (by omega)
    rw [hp, hl']
    have e1 : (xs ++ numB (n' : Int) ++ ts).length = n + (numB (n' : Int)).length + n' := by simp; omega
    rw [e1]
    have HP : Hid _ := hput
    clear hput hp e1
    generalize numB (n' : Int) = D at HP hb ⊢
    go_enter Try.func39, Try.ntmps39
    go_wp2_with fail
    refine Calls.mono HP.out ?_
    rintro e w1 ⟨v1, rfl, hown1, b1⟩
    have hy1 := h'.below b1
    have s1 := b1.size
    clear HP h h'
    go_wp2_with (at_builtin; refine wpl_append_bs rfl _ _ rfl w.heap.size _ (n + D.length) (xs ++ D) rfl a' n' c' ts rfl hown1 hy1 ?_ ?_ ?_)
    · omega
    · omega
    intro v2 w2 hown2 hgr2 _
    have b2 : Below w.heap.size w w2 := below_app0 b1 s1 hown1 hgr2
    clear hgr2 hown1 b1 hy1
    go_wp2
    go_ret
    exact ⟨v2, rfl, by simpa using hown2, b2⟩

set_option maxHeartbeats 400000 in
theorem implPutT (a a' : Option Addr) (n c n' c' : Nat) (xs ts : List Int) (w : World) (h : Bs w a n c xs) (h' : Bs w a' n' c' ts) (hn : n ≤ 1048576) (hn' : n' ≤ 1048576) :
    Calls Try.prog 19 #[.slice a n c, .slice a' n' c'] w fun e w' => ∃ v, e = .returned v ∧ w'.ownsRow w.heap.size 5 1 v (putT xs ts).length (U8 (putT xs ts)) ∧ Below w.heap.size w w' := by
  have hl := h.2.1
  have hl' := h'.2.1
  by_cases hbig : (64 : Int) < (n' : Int)
  · have hp : putT xs ts = xs := by unfold putT; rw [if_pos (by omega)]
    rw [hp, hl]
    have hcl := cloneB a n c xs w h (by omega)
    have HC : Hid _ := hcl
    clear h h' hp hcl
    go_enter Try.func19, Try.ntmps19
    go_wp2_with fail
    refine Calls.mono HC.out ?_
    rintro e w1 ⟨v1, rfl, hown1, b1⟩
    clear HC
    go_wp2
    go_ret
    exact ⟨_, rfl, hown1, b1⟩
  · have hp : putT xs ts = xs ++ numB ts.length ++ ts := by unfold putT; rw [if_neg (by omega)]
    have hb := numB_len (n' : Int)
    have hxb := h.2.2.2.1
    have hDb := numB_byte (n' : Int)
    have hput := implPut a n c xs (n' : Int) w h (by omega)
    rw [hp, hl']
    have e1 : (xs ++ numB (n' : Int) ++ ts).length = n + (numB (n' : Int)).length + n' := by simp; omega
    rw [e1]
    have HP : Hid _ := hput
    clear hput hp e1
    have hxD : ∀ x ∈ xs ++ numB (n' : Int), 0 ≤ x ∧ x < 256 := by
      intro x hx
      rcases List.mem_append.1 hx with k | k
      · exact hxb x k
      · exact hDb x k
    generalize numB (n' : Int) = D at HP hb hxD ⊢
    have HX : Hid _ := hxD
    clear hxD hxb hDb
    go_enter Try.func19, Try.ntmps19
    go_wp2_with fail
    refine Calls.mono HP.out ?_
    rintro e w1 ⟨v1, rfl, hown1, b1⟩
    obtain ⟨a1, c1, rfl, _, hB1⟩ := Bs.own hown1 HX.out
    have hy1 := h'.below b1
    have s1 := b1.size
    clear HP h h' hown1 HX
    go_wp2_with fail
    have bB := (Below.refl w1.heap.size w1).alloc (Nat.le_refl _) (Obj.cells #[Value.slice a1 (n + D.length) c1, Value.slice a' n' c'] 22)
    have g2 := b1.trans (bB.mono s1)
    refine (concat2 w1.heap.size a1 a' (n + D.length) c1 n' c' (xs ++ D) ts _ (by simp) (by rw [World.cell?_alloc_at _ _ _ _ (by simp)]; rfl) (by rw [World.cell?_alloc_at _ _ _ _ (by simp)]; rfl) (hB1.below bB) (hy1.below bB) (by omega) (by omega)).mono ?_
    rintro e w2 ⟨v, rfl, hown, b2⟩
    have g4 := g2.trans (b2.mono g2.size)
    have hown' := own_base hown g2.size
    clear hown b2 g2 bB b1 hB1 hy1
    go_wp2
    go_ret
    exact ⟨_, rfl, by simpa using hown', g4⟩
end Go.Proofs.Ytjgoliajgfeehaa

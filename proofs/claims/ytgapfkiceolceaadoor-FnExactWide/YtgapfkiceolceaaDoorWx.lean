/-
  What is proved here: the contract of the specification's Wide, for every slice of bytes.
-/
import Derived.Test.YtgapfkiceolceaaDoorWw
import Derived.Test.YtgapfkiceolceaaDoorAppI
import Derived.Deep.AppendLies
namespace Go.Proofs.YtgapfkiceolceaaDoor
open Go.RowKit

theorem step_append_is {w : World} {ops : Array Oper} {o : Oper} {a : Act} {K : Act → World → Prop} {Q : Exit → Act → World → Prop} {E : Prop} (hgd : o.guard = none) (s x : Operand)
    (ho : o.op = .call { callee := .builtin .append, args := #[s, x], argTypes := #[25, 25] })
    (base : Nat) (v : Value) (n : Nat) (xs : List Int) (hs : a.eval s = v) (ad : Addr) (m c : Nat) (ys : List Int) (hx : a.eval x = .slice (some ad) m c)
    (hown : w.ownsRow base 3 1 v n (I64 xs)) (hb : Is w (some ad) m c ys) (hlen : n + m ≤ 1099511627776) (hbase : base ≤ w.heap.size)
    (h : ∀ v' w', w'.ownsRow base 3 1 v' (n + m) (I64 (xs ++ ys)) → w.grownBy w' v.ownBlock → (v'.ownBlock = v.ownBlock ∨ v'.ownBlock = some w.heap.size) → K (a.put o.dst v') w') :
    if Region.wanted o (yielded ops a.tmps) = true then Oper.wp Tryd.prog o a w K Q else E := by
  obtain ⟨i0, hi, hz0, hz1, hz2⟩ := info_parts Tryd.info3
  obtain ⟨_, hl, hc, _, hb⟩ := hb
  have hw : Region.wanted o (yielded ops a.tmps) = true := by simp [Region.wanted, hgd]
  rw [if_pos hw]
  have hnews : ∀ j u, (I64 ys)[j]? = some u → w.cell? (ad.add j) = some u := by
    rcases hb with hb | ⟨b, off, ha, _, hcell⟩
    · intro j u hj
      have hy : ys = [] := List.eq_nil_of_length_eq_zero (by omega)
      subst hy
      simp at hj
    · obtain rfl := Option.some.inj ha
      intro j u hj
      have hjl : j < m := by
        have := (List.getElem?_eq_some_iff.1 hj).1
        simpa [hl] using this
      rw [Addr.add_lit, hcell j hjl]
      have e : (I64 ys)[j]? = some (.int .i64 (ys.getD j 0)) := by simp [show j < ys.length by omega]
      rw [e] at hj
      exact hj
  obtain ⟨v', w', hr, h2, h3, _, h5⟩ := run_append_own_at (P := Tryd.prog) w base 25 o.type 3 i0 (.int .i64 0) 1 8 Tryd.underlying25 hi hz0 hz1 hz2 rfl (by decide) v n (I64 xs) hown ad m c (I64 ys) (by simp [hl]) hnews (ints_oneCell _ _)
    (by unfold maxLen; omega) (by omega) hbase
  unfold Oper.wp execOp
  simp only [ho, resolve, invoke, builtin, Sem.run_bind, Sem.run_pure, Result.andThen_ok, List.map_toArray, List.map_cons, List.map_nil, hs, hx, hr]
  exact h v' w' (by simpa using h2) h3 h5


/-- Two new cells, as a slice of ints. -/
theorem Is.pair (w : World) (x y : Int) (h : ∀ u ∈ [x, y], -9223372036854775808 ≤ u ∧ u ≤ 9223372036854775807) : Is (w.alloc (.cells #[.int .i64 x, .int .i64 y] 3)) (some ⟨w.heap.size, 0, none⟩) 2 2 [x, y] := by
  refine ⟨(fun h => by cases h), rfl, Nat.le_refl _, h, .inr ⟨w.heap.size, 0, rfl, by simp, ?_⟩⟩
  intro j hj
  rw [World.cell?_alloc_at _ _ _ _ rfl]
  match j, hj with
  | 0, _ => rfl
  | 1, _ => rfl

theorem below_drew_app {X wr w' : World} {n : Nat} {v : Value} {xs : List Value} {o : Obj} (hb : Below X.heap.size X wr) (hs : X.heap.size ≤ wr.heap.size) (hown : wr.ownsRow X.heap.size 3 1 v n xs) (hg : (wr.alloc o).drew.grownBy w' v.ownBlock) : Below X.heap.size X w' :=
  ((hb.alloc hs o).drew).grown hg (by simp; omega) (fun k hk => (hown.lt k hk).1)

set_option maxRecDepth 100000 in
set_option maxHeartbeats 2000000 in
theorem specWide (a : Option Addr) (n c : Nat) (xs : List Int) (w : World) (hx : Bs w a n c xs) :
    Calls Tryd.prog 50 #[.slice a n c] w fun e w' => ∃ v, e = .returned (.tuple #[v, .bool (decide (xs.length = 128))]) ∧ w'.ownsRow w.heap.size 3 1 v (wideOf xs).length (I64 (wideOf xs)) ∧ Below w.heap.size w w' := by
  have hxl := hx.2.1
  by_cases h128 : n ≠ 128
  · have hd : decide (xs.length = 128) = false ∧ wideOf xs = [] := ⟨by simp; omega, by unfold wideOf; rw [if_neg (by omega)]⟩
    have HD : Hid _ := hd
    have hne : ¬ ((n : Int) = 128) := by omega
    clear hd
    go_enter Tryd.func50, Tryd.ntmps50
    go_wp2
    go_ret2
    refine ⟨_, by rw [HD.out.1]; rfl, ?_, Below.refl _ _⟩
    rw [HD.out.2]
    exact World.ownsRow_nil _ _ _ _
  obtain rfl : n = 128 := by omega
  clear h128
  have hd : decide (xs.length = 128) = true ∧ wideOf xs = halves (schedW xs 80) := ⟨by simp; omega, by unfold wideOf; rw [if_pos (by omega)]⟩
  have HD : Hid _ := hd
  have HBY : Hid _ := schedW_word hx.2.2.2.1 80
  clear hd
  go_enter Tryd.func50, Tryd.ntmps50
  go_wp2_with fail
  refine (specWordsW a c xs _ hx).mono ?_
  rintro e w2 ⟨rfl, b2⟩
  obtain ⟨ws, hws⟩ : ∃ ws, ws = schedW xs 80 := ⟨_, rfl⟩
  have hwl : ws.length = 80 := by rw [hws]; exact schedW_len xs 80
  rw [← hws] at HBY HD ⊢
  clear hws hx
  have hz80 := zero80
  have hsz80 : (Tryd.prog.info? 44).map (·.size) = some (U64 ws).toArray.size := by simpa [hwl] using Tryd.infoW80
  have hZ := Arr.new w2 (U64 Z80) 44
  have hX5 : Arr ((w2.alloc (.cells (U64 Z80).toArray 44)).setRow w2.heap.size (U64 ws).toArray) w2.heap.size 44 (U64 ws) := hZ.row (U64 ws)
  have hXb : Below w.heap.size w ((w2.alloc (.cells (U64 Z80).toArray 44)).setRow w2.heap.size (U64 ws).toArray) := setRow_below (b2.alloc b2.size _) w2.heap.size (U64 ws).toArray b2.size
  obtain ⟨X, hXe⟩ : ∃ X, X = ((w2.alloc (.cells #[.int .u64 0, .int .u64 0, .int .u64 0, .int .u64 0, .int .u64 0, .int .u64 0, .int .u64 0, .int .u64 0, .int .u64 0, .int .u64 0, .int .u64 0, .int .u64 0, .int .u64 0, .int .u64 0, .int .u64 0, .int .u64 0, .int .u64 0, .int .u64 0, .int .u64 0, .int .u64 0, .int .u64 0, .int .u64 0, .int .u64 0, .int .u64 0, .int .u64 0, .int .u64 0, .int .u64 0, .int .u64 0, .int .u64 0, .int .u64 0, .int .u64 0, .int .u64 0, .int .u64 0, .int .u64 0, .int .u64 0, .int .u64 0, .int .u64 0, .int .u64 0, .int .u64 0, .int .u64 0, .int .u64 0, .int .u64 0, .int .u64 0, .int .u64 0, .int .u64 0, .int .u64 0, .int .u64 0, .int .u64 0, .int .u64 0, .int .u64 0, .int .u64 0, .int .u64 0, .int .u64 0, .int .u64 0, .int .u64 0, .int .u64 0, .int .u64 0, .int .u64 0, .int .u64 0, .int .u64 0, .int .u64 0, .int .u64 0, .int .u64 0, .int .u64 0, .int .u64 0, .int .u64 0, .int .u64 0, .int .u64 0, .int .u64 0, .int .u64 0, .int .u64 0, .int .u64 0, .int .u64 0, .int .u64 0, .int .u64 0, .int .u64 0, .int .u64 0, .int .u64 0, .int .u64 0, .int .u64 0] 44)).setRow w2.heap.size (U64 ws).toArray) := ⟨_, rfl⟩
  have hXd : (w2.alloc (.cells (U64 Z80).toArray 44)).setRow w2.heap.size (U64 ws).toArray = X := hXe.symm
  rw [hXd] at hX5 hXb
  have HXE : Hid _ := hXe
  clear hXd hXe
  go_wp2_with (first
    | (refine wpList_store_row rfl 44 _ _ rfl w2.heap.size (U64 ws).toArray rfl rfl 44 _ hZ hsz80 (by simp [hwl]) (by simp [Value.oneCell']) ?_
       rw [← HXE.out]))
  obtain ⟨P, hP⟩ : ∃ P, P = w2.heap.size := ⟨_, rfl⟩
  rw [← hP] at hX5 ⊢
  clear hP hZ hz80 hsz80 HXE b2
  have hXs := hXb.size
  go_loopw [5, 6] (fun v i wr => ∃ k m : Nat, m = 2 * k ∧ k ≤ 80 ∧ i = .int .i64 k ∧ wr.ownsRow X.heap.size 3 1 v m (I64 (halves (ws.take k))) ∧ Below X.heap.size X wr) (fun _ i _ => 80 - (intOf i).toNat)
  case atStart => exact ⟨0, 0, rfl, by omega, rfl, by simpa [halves] using World.ownsRow_nil _ _ _ _, Below.refl _ _⟩
  case round =>
    obtain ⟨k, m, hm, hk, rfl, hown, hb⟩ := hrel
    by_cases hlt : k < 80
    · obtain ⟨x, hx⟩ : ∃ x, x = ws.getD k 0 := ⟨_, rfl⟩
      have h5 := hX5.kept hb
      have ck := h5.u64 k (by omega)
      rw [← hx] at ck
      obtain ⟨hx0, hx1⟩ : 0 ≤ x ∧ x < 18446744073709551616 := by rw [hx]; exact HBY.out _ (getD_memW (by omega))
      have hsn := take_snoc ws k (by omega)
      rw [← hx] at hsn
      have HN : Hid _ := halves_snoc hsn
      have HM : Hid _ := hm
      have hlow := u64_low hx0 hx1
      have hw1 : IntKind.i64.wrap (x / 4294967296) = x / 4294967296 := by rw [IntKind.wrap_i64]; omega
      have hw2 : IntKind.i64.wrap (x % 4294967296) = x % 4294967296 := by rw [IntKind.wrap_i64]; omega
      have hk8 : (k : Int) < 80 := by omega
      have hk0 : (0 : Int) ≤ (k : Int) := by omega
      have hm160 : m ≤ 158 := by have := HM.out; omega
      have hsz := hb.size
      have hpr := Is.pair wr (x / 4294967296) (x % 4294967296) (by intro u hu; simp only [List.mem_cons, List.not_mem_nil, or_false] at hu; omega)
      have cd : wr.drew.cell? ⟨P, k, none⟩ = some (.int .u64 x) := ck
      have ca : ∀ o, (wr.alloc o).drew.cell? ⟨P, k, none⟩ = some (.int .u64 x) := fun o => (((Below.refl _ _).alloc (Nat.le_refl _) o).drew.cell (p := ⟨P, k, none⟩) h5.lt).trans ck
      clear hx hsn hm
      go_wp2
      go_region_held3 (fun W => W.cell? ⟨P, k, none⟩ = some (.int .u64 x)) (first | exact cd | exact ca _ | exact cC)
        (first
          | (refine step_append_is rfl _ _ rfl X.heap.size _ m (halves (ws.take k)) rfl ⟨wr.heap.size, 0, none⟩ 2 2 (hv2 x) rfl (hown.alloc _).drew (hpr.below (Below.refl _ _).drew) (by omega) (by simp; omega) ?_
             intro vC wC hoC hgC _
             have bC : Below X.heap.size X wC := below_drew_app hb hsz hown hgC
             have cC : wC.cell? ⟨P, k, none⟩ = some (.int .u64 x) := by rw [bC.cell (p := ⟨P, k, none⟩) hX5.lt, ← hb.cell (p := ⟨P, k, none⟩) hX5.lt]; exact ck))
      have HR : Hid (wC.ownsRow X.heap.size 3 1 vC (m + 2) (I64 (halves (ws.take (k + 1))))) := by
        unfold Hid
        rw [HN.out]; exact hoC
      clear hoC hgC hown hb HN cC ca cd ck h5 hpr
      go_wp2
      go_roundw
      case rel => exact ⟨k + 1, m + 2, by have := HM.out; omega, by omega, by go_num, HR.out, bC⟩
      case measure => simp [intOf]; omega
    · obtain rfl : k = 80 := by omega
      obtain rfl : m = 160 := hm
      rw [List.take_of_length_le (show ws.length ≤ 80 by omega)] at hown
      have fr := hXb.trans (hb.mono hXb.size)
      have ho' := own_base hown hXs
      have hl160 : (halves ws).length = 160 := by rw [halves_len, hwl]
      go_wp2
      go_ret2
      refine ⟨_, by rw [HD.out.1]; rfl, ?_, fr⟩
      rw [HD.out.2, hl160]
      exact ho'
end Go.Proofs.YtgapfkiceolceaaDoor

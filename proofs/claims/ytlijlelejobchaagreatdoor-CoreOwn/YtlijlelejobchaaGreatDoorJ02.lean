/- keep.Ints, Size: what they answer. -/
import Derived.Test.YtlijlelejobchaaGreatDoorJ01
import Derived.OwnWalk
import Derived.Laws.AppendOwnNone
import Derived.Test.YtlijlelejobchaaGreatDoorRows
import Derived.WalkKit
import Derived.WalkSpells
import Derived.WalkLawsBesides
import Derived.BigRegion
namespace Go.Proofs.YtlijlelejobchaaGreatDoor
open Go.RowKit
theorem info3 : (Tryz.prog.info? 3).map (fun i => (i.zero, i.size, i.bytes)) = some (some (.int .i64 0), 1, 8) := by kernel_rfl
/-- Ints as a row's cells. -/
def cellsI (l : List Int) : List Value := l.map fun z => Value.int .i64 z
theorem cellsI_at {l : List Int} {j : Nat} {u : Value} (h : (cellsI l)[j]? = some u) : ∃ z, l[j]? = some z ∧ u = .int .i64 z := by
  unfold cellsI at h
  rw [List.getElem?_map] at h
  cases hz : l[j]? with
  | none => rw [hz] at h; cases h
  | some z => rw [hz] at h; cases h; exact ⟨z, rfl, rfl⟩
theorem one_cells (l : List Int) : ∀ u ∈ cellsI l, u.oneCell' = true := fun u hu => by
  obtain ⟨z, _, rfl⟩ := List.mem_map.1 hu
  rfl
theorem RowI.of_owns {w : World} {n₀ e : Nat} {v : Value} {n : Nat} {l : List Int} (h : w.ownsRow n₀ e 1 v n (cellsI l)) : RowI w v l := by
  have hl : n = l.length := by have := h.1; simp [cellsI] at this; omega
  subst hl
  rcases h.2 with ⟨rfl, h0⟩ | ⟨g, cap, cur, rfl, _, hb, hcap, _, _, hcur⟩
  · refine ⟨none, 0, by rw [h0], ⟨by omega, fun _ => rfl⟩, fun i z hz => ?_⟩
    have := (List.getElem?_eq_some_iff.1 hz).1
    omega
  · refine ⟨_, cap, rfl, ⟨hcap, fun e => by cases e⟩, fun i z hz => ⟨g, 0, rfl, ?_⟩⟩
    obtain ⟨hi, _⟩ := List.getElem?_eq_some_iff.1 hz
    have e1 : cur[i]? = some (Value.int .i64 z) := by
      have : (cur.toList.take (l.length * 1))[i]? = (cellsI l)[i]? := by rw [hcur]
      rw [List.getElem?_take_of_lt (by omega)] at this
      simpa [cellsI, hz] using this
    rw [Nat.zero_add]
    simp [World.cell?, hb, e1]
theorem cell_new {w : World} {a : Addr} {v : Value} (h : w.cell? a = some v) {o : Obj} : (w.alloc o).cell? a = some v := by
  have hlt : a.block < w.heap.size := by
    rcases Nat.lt_or_ge a.block w.heap.size with h1 | h1
    · exact h1
    · rw [World.cell?, show w.heap[a.block]? = none from Array.getElem?_eq_none h1] at h; cases h
  exact (((Below.refl w.heap.size w).alloc (Nat.le_refl _) o).cell hlt).trans h
theorem heap_new (w : World) (o : Obj) : (w.alloc o).heap[w.heap.size]? = some o := by
  show (w.heap.push o)[w.heap.size]? = some o
  simp
theorem owns_zero (w : World) (e : TypeId) : (w.alloc (.cells #[] e)).ownsRow w.heap.size e 1 (.slice (some ⟨w.heap.size, 0, none⟩) 0 0) 0 (cellsI []) :=
  ⟨rfl, .inr ⟨_, 0, #[], rfl, Nat.le_refl _, heap_new w _, Nat.le_refl _, by unfold maxLen; omega, rfl, rfl⟩⟩
theorem eq_nil (w : World) : (binOp .eql 23 (.slice none 0 0) (.slice none 0 0)).run Tryz.prog w = .ok (.bool true) w := by kernel_rfl
theorem ne_nil (ad : Addr) (n cap : Nat) (w : World) : (binOp .eql 23 (.slice (some ad) n cap) (.slice none 0 0)).run Tryz.prog w = .ok (.bool false) w := by kernel_rfl
set_option maxRecDepth 100000 in
set_option maxHeartbeats 1000000 in
theorem clone (l : List Int) (v : Value) (w : World) (hr : RowI w v l) (hn : l.length ≤ 1000) :
    Calls Tryz.prog 38 #[v] w fun e w' => ∃ v', e = .returned v' ∧ w'.ownsRow w.heap.size 3 1 v' l.length (cellsI l) ∧ Below w.heap.size w w' := by
  obtain ⟨oa, cap, rfl, hcap, hc⟩ := hr
  obtain ⟨i0, hi, hz0, hz1, hz2⟩ := info_parts info3
  have hc' := hide' hc
  clear hc
  go_enter Tryz.func38, Tryz.ntmps38
  cases oa with
  | none =>
    obtain ⟨h1, h2⟩ := hcap
    have := h2 rfl
    subst this
    have : l = [] := List.eq_nil_of_length_eq_zero (by omega)
    subst this
    have hq := eq_nil w
    go_wp2
    go_ret
    exact ⟨_, rfl, World.ownsRow_nil w _ _ _, Below.refl _ _⟩
  | some ad =>
    have hq := ne_nil ad l.length cap w
    have hnews : ∀ j u, (cellsI l)[j]? = some u → w.cell? (ad.add j) = some u := fun j u hu => by
      obtain ⟨z, hz, rfl⟩ := cellsI_at hu
      obtain ⟨g, o, e, hcell⟩ := hc'.out j z hz
      cases e
      rw [Addr.add_lit]; exact hcell
    go_wp2_with (at_builtin; refine wpList_append_own _ rfl _ _ 23 rfl w.heap.size 3 i0 (.int .i64 0) 1 8 Tryz.underlying23 hi hz0 hz1 hz2 rfl (by decide) _ 0 (cellsI []) rfl (owns_zero w _) ad l.length cap (cellsI l) rfl (by simp [cellsI]) (fun j u hu => cell_new (hnews j u hu)) (one_cells _) (by unfold maxLen; omega) (by omega) (by simp) ?_; intro v1 w1 hown1 hgrow1 hnil)
    go_ret
    rw [Nat.zero_add] at hown1
    have hown : w1.ownsRow w.heap.size 3 1 v1 l.length (cellsI l) := hown1
    exact ⟨_, rfl, hown, ((Below.refl _ w).alloc (Nat.le_refl _) _).grown hgrow1 (by simp) (fun j ej => by cases ej; exact Nat.le_refl _)⟩
theorem set_mid (A : List Value) (c n : Nat) (u z : Value) (hA : A.length = c) (hc : c < n) : (A ++ List.replicate (n - c) z).set c u = (A ++ [u]) ++ List.replicate (n - (c + 1)) z := by
  obtain ⟨m, hm⟩ : ∃ m, n - c = m + 1 := ⟨n - c - 1, by omega⟩
  rw [hm, show n - (c + 1) = m by omega, List.replicate_succ, List.set_append, if_neg (by omega), show c - A.length = 0 by omega]
  simp
theorem cellsI_snoc (l : List Nat) (x : Nat) : cellsI (ints (l ++ [x])) = cellsI (ints l) ++ [.int .i64 (x : Int)] := by simp [cellsI, ints]
end Go.Proofs.YtlijlelejobchaaGreatDoor
namespace Go.Proofs.YtlijlelejobchaaGreatDoor.I
open Go.RowKit
theorem hide' {p : Prop} (h : p) : Hid p := h
theorem ret_bool {a b : Bool} (h : a = b) : Ending.returned (.bool a) = .returned (.bool b) := by rw [h]
theorem ret_int {k : IntKind} {a b : Int} (h : a = b) : Ending.returned (.int k a) = .returned (.int k b) := by rw [h]
/-- A row of numbers, wherever it lies. -/
def RowI (w : World) (v : Value) (l : List Int) : Prop := ∃ oa cap, v = .slice oa l.length cap ∧ (l.length ≤ cap ∧ (oa = none → cap = 0)) ∧ ∀ i z, l[i]? = some z → ∃ g o, oa = some ⟨g, o, none⟩ ∧ w.cell? ⟨g, o + i, none⟩ = some (.int .i64 z)
theorem cell_lt {W : World} {b o : Nat} {v : Value} (h : W.cell? ⟨b, o, none⟩ = some v) : b < W.heap.size := by
  rcases Nat.lt_or_ge b W.heap.size with h1 | h1
  · exact h1
  · rw [World.cell?, show W.heap[b]? = none from Array.getElem?_eq_none h1] at h; cases h
theorem RowI.below {w w' : World} {v : Value} {l : List Int} {n : Nat} (h : RowI w v l) (hb : Below n w w') (hn : w.heap.size ≤ n) : RowI w' v l := by
  obtain ⟨oa, cap, e, e0, h⟩ := h
  refine ⟨oa, cap, e, e0, fun i z hz => ?_⟩
  obtain ⟨g, o, e1, e2⟩ := h i z hz
  exact ⟨g, o, e1, (hb.cell (p := ⟨g, o + i, none⟩) (Nat.lt_of_lt_of_le (cell_lt e2) hn)).trans e2⟩
/-- Numbers as ints. -/
def ints (l : List Nat) : List Int := l.map fun n : Nat => (n : Int)
theorem ints_len (l : List Nat) : (ints l).length = l.length := by simp [ints]
theorem ints_at {l : List Nat} {i : Nat} {x : Nat} (h : l[i]? = some x) : (ints l)[i]? = some (x : Int) := by simp [ints, h]
theorem info3 : (Tryz.prog.info? 3).map (fun i => (i.zero, i.size, i.bytes)) = some (some (.int .i64 0), 1, 8) := by kernel_rfl
/-- Ints as a row's cells. -/
def cellsI (l : List Int) : List Value := l.map fun z => Value.int .i64 z
theorem cellsI_at {l : List Int} {j : Nat} {u : Value} (h : (cellsI l)[j]? = some u) : ∃ z, l[j]? = some z ∧ u = .int .i64 z := by
  unfold cellsI at h
  rw [List.getElem?_map] at h
  cases hz : l[j]? with
  | none => rw [hz] at h; cases h
  | some z => rw [hz] at h; cases h; exact ⟨z, rfl, rfl⟩
theorem one_cells (l : List Int) : ∀ u ∈ cellsI l, u.oneCell' = true := fun u hu => by
  obtain ⟨z, _, rfl⟩ := List.mem_map.1 hu
  rfl
theorem RowI.of_owns {w : World} {n₀ e : Nat} {v : Value} {n : Nat} {l : List Int} (h : w.ownsRow n₀ e 1 v n (cellsI l)) : RowI w v l := by
  have hl : n = l.length := by have := h.1; simp [cellsI] at this; omega
  subst hl
  rcases h.2 with ⟨rfl, h0⟩ | ⟨g, cap, cur, rfl, _, hb, hcap, _, _, hcur⟩
  · refine ⟨none, 0, by rw [h0], ⟨by omega, fun _ => rfl⟩, fun i z hz => ?_⟩
    have := (List.getElem?_eq_some_iff.1 hz).1
    omega
  · refine ⟨_, cap, rfl, ⟨hcap, fun e => by cases e⟩, fun i z hz => ⟨g, 0, rfl, ?_⟩⟩
    obtain ⟨hi, _⟩ := List.getElem?_eq_some_iff.1 hz
    have e1 : cur[i]? = some (Value.int .i64 z) := by
      have : (cur.toList.take (l.length * 1))[i]? = (cellsI l)[i]? := by rw [hcur]
      rw [List.getElem?_take_of_lt (by omega)] at this
      simpa [cellsI, hz] using this
    rw [Nat.zero_add]
    simp [World.cell?, hb, e1]
theorem cell_new {w : World} {a : Addr} {v : Value} (h : w.cell? a = some v) {o : Obj} : (w.alloc o).cell? a = some v := by
  have hlt : a.block < w.heap.size := by
    rcases Nat.lt_or_ge a.block w.heap.size with h1 | h1
    · exact h1
    · rw [World.cell?, show w.heap[a.block]? = none from Array.getElem?_eq_none h1] at h; cases h
  exact (((Below.refl w.heap.size w).alloc (Nat.le_refl _) o).cell hlt).trans h
theorem heap_new (w : World) (o : Obj) : (w.alloc o).heap[w.heap.size]? = some o := by
  show (w.heap.push o)[w.heap.size]? = some o
  simp
theorem owns_zero (w : World) (e : TypeId) : (w.alloc (.cells #[] e)).ownsRow w.heap.size e 1 (.slice (some ⟨w.heap.size, 0, none⟩) 0 0) 0 (cellsI []) :=
  ⟨rfl, .inr ⟨_, 0, #[], rfl, Nat.le_refl _, heap_new w _, Nat.le_refl _, by unfold maxLen; omega, rfl, rfl⟩⟩
theorem eq_nil (w : World) : (binOp .eql 23 (.slice none 0 0) (.slice none 0 0)).run Tryz.prog w = .ok (.bool true) w := by kernel_rfl
theorem ne_nil (ad : Addr) (n cap : Nat) (w : World) : (binOp .eql 23 (.slice (some ad) n cap) (.slice none 0 0)).run Tryz.prog w = .ok (.bool false) w := by kernel_rfl
set_option maxRecDepth 100000 in
set_option maxHeartbeats 1000000 in
theorem clone (l : List Int) (v : Value) (w : World) (hr : RowI w v l) (hn : l.length ≤ 1000) :
    Calls Tryz.prog 38 #[v] w fun e w' => ∃ v', e = .returned v' ∧ w'.ownsRow w.heap.size 3 1 v' l.length (cellsI l) ∧ Below w.heap.size w w' := by
  obtain ⟨oa, cap, rfl, hcap, hc⟩ := hr
  obtain ⟨i0, hi, hz0, hz1, hz2⟩ := info_parts info3
  have hc' := hide' hc
  clear hc
  go_enter Tryz.func38, Tryz.ntmps38
  cases oa with
  | none =>
    obtain ⟨h1, h2⟩ := hcap
    have := h2 rfl
    subst this
    have : l = [] := List.eq_nil_of_length_eq_zero (by omega)
    subst this
    have hq := eq_nil w
    go_wp2
    go_ret
    exact ⟨_, rfl, World.ownsRow_nil w _ _ _, Below.refl _ _⟩
  | some ad =>
    have hq := ne_nil ad l.length cap w
    have hnews : ∀ j u, (cellsI l)[j]? = some u → w.cell? (ad.add j) = some u := fun j u hu => by
      obtain ⟨z, hz, rfl⟩ := cellsI_at hu
      obtain ⟨g, o, e, hcell⟩ := hc'.out j z hz
      cases e
      rw [Addr.add_lit]; exact hcell
    go_wp2_with (at_builtin; refine wpList_append_own _ rfl _ _ 23 rfl w.heap.size 3 i0 (.int .i64 0) 1 8 Tryz.underlying23 hi hz0 hz1 hz2 rfl (by decide) _ 0 (cellsI []) rfl (owns_zero w _) ad l.length cap (cellsI l) rfl (by simp [cellsI]) (fun j u hu => cell_new (hnews j u hu)) (one_cells _) (by unfold maxLen; omega) (by omega) (by simp) ?_; intro v1 w1 hown1 hgrow1 hnil)
    go_ret
    rw [Nat.zero_add] at hown1
    have hown : w1.ownsRow w.heap.size 3 1 v1 l.length (cellsI l) := hown1
    exact ⟨_, rfl, hown, ((Below.refl _ w).alloc (Nat.le_refl _) _).grown hgrow1 (by simp) (fun j ej => by cases ej; exact Nat.le_refl _)⟩
set_option maxRecDepth 100000 in
set_option maxHeartbeats 2000000 in
theorem keepInts (la lb : List Int) (va vb : Value) (w : World) (ha : RowI w va la) (hb : RowI w vb lb) (hn : la.length ≤ 1000000) (hm : lb.length ≤ 1000000) :
    Calls Tryz.prog 24 #[va, vb] w fun e w' => e = .returned (.bool (decide (la = lb))) ∧ Below w.heap.size w w' := by
  obtain ⟨oa, ca, rfl, _, hca⟩ := ha
  obtain ⟨ob, cb, rfl, _, hcb⟩ := hb
  by_cases hl : la.length = lb.length
  · have hca' := hide' hca
    have hcb' := hide' hcb
    clear hca hcb
    go_enter Tryz.func24, Tryz.ntmps24
    go_wp2
    go_loopw [5] (fun k wr => Below w.heap.size w wr ∧ ∃ (c : Nat), c ≤ la.length ∧ k = .int .i64 c ∧ Hid (la.take c = lb.take c)) (fun k _ => ((la.length : Int) - intOf k).toNat)
    case atStart => exact ⟨Below.refl _ _, 0, Nat.zero_le _, rfl, by show _ = _; simp⟩
    case round =>
      obtain ⟨hB, c, hc, rfl, hE⟩ := hrel
      by_cases hlt : c < la.length
      · obtain ⟨x, hx⟩ : ∃ x, la[c]? = some x := ⟨_, List.getElem?_eq_getElem hlt⟩
        obtain ⟨y, hy⟩ : ∃ y, lb[c]? = some y := ⟨_, List.getElem?_eq_getElem (by omega)⟩
        obtain ⟨ga, o1, rfl, c1'⟩ := hca'.out c x hx
        obtain ⟨gb, o2, rfl, c2'⟩ := hcb'.out c y hy
        have c1 := (hB.cell (p := ⟨ga, o1 + c, none⟩) (cell_lt c1')).trans c1'
        have c2 := (hB.cell (p := ⟨gb, o2 + c, none⟩) (cell_lt c2')).trans c2'
        clear c1' c2'
        have hx' := hide' hx
        have hy' := hide' hy
        have hltb : c < lb.length := by omega
        by_cases hxy : x = y
        · subst hxy
          clear hx hy
          go_wp2
          go_region
          go_wp2
          exact ⟨⟨hB.drew, c + 1, by omega, by go_num, by show _ = _; rw [List.take_add_one, List.take_add_one, hE.out, hx'.out, hy'.out]⟩, by simp [intOf]; omega⟩
        · have hd : (x != y) = true := by simpa using hxy
          clear hx hy
          go_wp2
          go_region
          go_wp2
          go_ret
          exact ⟨ret_bool (by rw [eq_comm]; simp only [decide_eq_false_iff_not]; intro e; subst e; rw [hx'.out] at hy'; exact hxy (Option.some.inj hy'.out)), hB.drew⟩
      · obtain rfl : c = la.length := by omega
        have e : Hid (la = lb) := by
          show _ = _
          have := hE.out
          rwa [List.take_length, hl, List.take_length] at this
        clear hE hca' hcb'
        go_wp2
        go_ret
        exact ⟨ret_bool (by simp [e.out]), hB⟩
  · have hd : ((la.length : Int) != (lb.length : Int)) = true := by rw [bne_iff_ne]; omega
    clear hca hcb
    go_enter Tryz.func24, Tryz.ntmps24
    go_wp2
    go_ret
    exact ⟨ret_bool (by rw [eq_comm]; simp only [decide_eq_false_iff_not]; intro e; exact hl (by rw [e])), Below.refl _ _⟩
end Go.Proofs.YtlijlelejobchaaGreatDoor.I
namespace Go.Proofs.YtlijlelejobchaaGreatDoor.I
open Go.RowKit
set_option maxHeartbeats 400000 in
theorem isNaNI (x : Int) (w : World) : Calls Tryz.prog 88 #[.int .i64 x] w fun e w' => e = .returned (.bool false) ∧ w' = w := by
  have hx : (x != x) = false := by simp
  go_enter Tryz.func88, Tryz.ntmps88
  go_wp2
  go_ret
  exact ⟨ret_bool (by simp), rfl⟩
def cmpI (x y : Int) : Int := if x < y then -1 else if y < x then 1 else 0
set_option maxHeartbeats 1000000 in
theorem cmpF (x y : Int) (w : World) : Calls Tryz.prog 64 #[.int .i64 x, .int .i64 y] w fun e w' => e = .returned (.int .i64 (cmpI x y)) ∧ w' = w := by
  unfold cmpI
  by_cases h1 : x < y
  · rw [if_pos h1]
    go_enter Tryz.func64, Tryz.ntmps64
    go_wp2_with (first | (go_at_call 88; refine (isNaNI _ _).mono ?_; rintro e w1 ⟨rfl, rfl⟩))
    go_ret
    exact ⟨rfl, rfl⟩
  · rw [if_neg h1]
    by_cases h2 : y < x
    · rw [if_pos h2]
      go_enter Tryz.func64, Tryz.ntmps64
      go_wp2_with (first | (go_at_call 88; refine (isNaNI _ _).mono ?_; rintro e w1 ⟨rfl, rfl⟩))
      go_ret
      exact ⟨rfl, rfl⟩
    · rw [if_neg h2]
      go_enter Tryz.func64, Tryz.ntmps64
      go_wp2_with (first | (go_at_call 88; refine (isNaNI _ _).mono ?_; rintro e w1 ⟨rfl, rfl⟩))
      go_ret
      exact ⟨rfl, rfl⟩
/-- How two rows of one length stand: by the first place at which they are not the same. -/
def cmpL : List Int → List Int → Int
  | x :: l, y :: m => if cmpI x y = 0 then cmpL l m else cmpI x y
  | [], _ :: _ => -1
  | _ :: _, [] => 1
  | [], [] => 0
theorem cmpI_zero {x y : Int} : cmpI x y = 0 ↔ x = y := by unfold cmpI; split <;> (try split) <;> omega
theorem cmpL_same : ∀ (p l m : List Int), cmpL (p ++ l) (p ++ m) = cmpL l m
  | [], _, _ => rfl
  | x :: p, l, m => by
    show (if cmpI x x = 0 then cmpL (p ++ l) (p ++ m) else cmpI x x) = _
    rw [if_pos (cmpI_zero.2 rfl), cmpL_same p l m]
set_option maxRecDepth 100000 in
set_option maxHeartbeats 2000000 in
theorem compareF (la lb : List Int) (va vb : Value) (w : World) (ha : RowI w va la) (hb : RowI w vb lb) (hn : la.length ≤ 1000000) (hl : la.length = lb.length) :
    Calls Tryz.prog 36 #[va, vb] w fun e w' => e = .returned (.int .i64 (cmpL la lb)) ∧ Below w.heap.size w w' := by
  obtain ⟨oa, ca, rfl, _, hca⟩ := ha
  obtain ⟨ob, cb, rfl, _, hcb⟩ := hb
  have hca' := hide' hca
  have hcb' := hide' hcb
  have hl' := hide' hl
  clear hca hcb hl
  go_enter Tryz.func36, Tryz.ntmps36
  go_wp2
  go_loopw [5, 6, 7, 8, 11] (fun _ _ _ _ k wr => Below w.heap.size w wr ∧ ∃ (c : Nat), c ≤ la.length ∧ k = .int .i64 c ∧ Hid (la.take c = lb.take c)) (fun _ _ _ _ k _ => ((la.length : Int) - intOf k).toNat)
  case atStart => exact ⟨Below.refl _ _, 0, Nat.zero_le _, rfl, by show _ = _; simp⟩
  case round =>
    obtain ⟨hB, c, hc, rfl, hE⟩ := hrel
    by_cases hlt : c < la.length
    · obtain ⟨x, hx⟩ : ∃ x, la[c]? = some x := ⟨_, List.getElem?_eq_getElem hlt⟩
      obtain ⟨y, hy⟩ : ∃ y, lb[c]? = some y := ⟨_, List.getElem?_eq_getElem (by have := hl'.out; omega)⟩
      obtain ⟨ga, o1, rfl, c1'⟩ := hca'.out c x hx
      obtain ⟨gb, o2, rfl, c2'⟩ := hcb'.out c y hy
      have c1 := (hB.cell (p := ⟨ga, o1 + c, none⟩) (cell_lt c1')).trans c1'
      have c2 := (hB.cell (p := ⟨gb, o2 + c, none⟩) (cell_lt c2')).trans c2'
      have hx' := hide' hx
      have hy' := hide' hy
      have hltb : c < lb.length := by have := hl'.out; omega
      have hsp : Hid (cmpL la lb = if cmpI x y = 0 then cmpL (la.drop (c + 1)) (lb.drop (c + 1)) else cmpI x y) := by
        show _ = _
        have e1 : la = la.take c ++ x :: la.drop (c + 1) := by
          obtain ⟨h1, h2⟩ := List.getElem?_eq_some_iff.1 hx
          rw [← h2, List.getElem_cons_drop, List.take_append_drop]
        have e2 : lb = lb.take c ++ y :: lb.drop (c + 1) := by
          obtain ⟨h1, h2⟩ := List.getElem?_eq_some_iff.1 hy
          rw [← h2, List.getElem_cons_drop, List.take_append_drop]
        have := cmpL_same (la.take c) (x :: la.drop (c + 1)) (y :: lb.drop (c + 1))
        rw [← e1, hE.out, ← e2] at this
        rw [this]; rfl
      clear c1' c2' hx hy
      by_cases hxy : x = y
      · subst hxy
        have h0 : cmpI x x = 0 := cmpI_zero.2 rfl
        go_wp2_with fail
        refine (cmpF x x _).mono ?_
        rintro e w1 ⟨rfl, rfl⟩
        rw [h0]
        go_wp2
        exact ⟨⟨hB, c + 1, by omega, by go_num, by show _ = _; rw [List.take_add_one, List.take_add_one, hE.out, hx'.out, hy'.out]⟩, by simp [intOf]; omega⟩
      · have h0 : ¬ cmpI x y = 0 := fun e => hxy (cmpI_zero.1 e)
        have hq := hsp.out
        rw [if_neg h0] at hq
        have hq' := hide' hq
        clear hq
        have KC := hide' (cmpF x y)
        generalize cmpI x y = cz at *
        have hd : (cz != 0) = true := by simpa using h0
        go_wp2_with fail
        refine (KC.out _).mono ?_
        rintro e w1 ⟨rfl, rfl⟩
        go_wp2
        go_ret
        exact ⟨by rw [hq'.out]; rfl, hB⟩
    · obtain rfl : c = la.length := by omega
      have hend : Hid (cmpL la lb = 0) := by
        show _ = _
        have h1 := hE.out
        rw [List.take_length, hl'.out, List.take_length] at h1
        rw [h1]
        have := cmpL_same lb [] []
        rw [List.append_nil] at this
        rw [this]; rfl
      have hlb : ¬ (la.length : Int) < (lb.length : Int) := by have := hl'.out; omega
      go_wp2
      go_ret
      exact ⟨by rw [hend.out]; rfl, hB⟩
end Go.Proofs.YtlijlelejobchaaGreatDoor.I
namespace Go.Proofs.YtlijlelejobchaaGreatDoor
open Go.RowKit
set_option maxRecDepth 100000 in
set_option maxHeartbeats 2000000 in
theorem keepInts (la lb : List Int) (va vb : Value) (w : World) (ha : RowI w va la) (hb : RowI w vb lb) (hn : la.length ≤ 1000000) (hm : lb.length ≤ 1000000) :
    Calls Tryz.prog 24 #[va, vb] w fun e w' => e = .returned (.bool (decide (la = lb))) ∧ Below w.heap.size w w' := by
  obtain ⟨oa, ca, rfl, _, hca⟩ := ha
  obtain ⟨ob, cb, rfl, _, hcb⟩ := hb
  by_cases hl : la.length = lb.length
  · have hca' := hide' hca
    have hcb' := hide' hcb
    clear hca hcb
    go_enter Tryz.func24, Tryz.ntmps24
    go_wp2
    go_loopw [5] (fun k wr => Below w.heap.size w wr ∧ ∃ (c : Nat), c ≤ la.length ∧ k = .int .i64 c ∧ Hid (la.take c = lb.take c)) (fun k _ => ((la.length : Int) - intOf k).toNat)
    case atStart => exact ⟨Below.refl _ _, 0, Nat.zero_le _, rfl, by show _ = _; simp⟩
    case round =>
      obtain ⟨hB, c, hc, rfl, hE⟩ := hrel
      by_cases hlt : c < la.length
      · obtain ⟨x, hx⟩ : ∃ x, la[c]? = some x := ⟨_, List.getElem?_eq_getElem hlt⟩
        obtain ⟨y, hy⟩ : ∃ y, lb[c]? = some y := ⟨_, List.getElem?_eq_getElem (by omega)⟩
        obtain ⟨ga, o1, rfl, c1'⟩ := hca'.out c x hx
        obtain ⟨gb, o2, rfl, c2'⟩ := hcb'.out c y hy
        have c1 := (hB.cell (p := ⟨ga, o1 + c, none⟩) (cell_lt c1')).trans c1'
        have c2 := (hB.cell (p := ⟨gb, o2 + c, none⟩) (cell_lt c2')).trans c2'
        clear c1' c2'
        have hx' := hide' hx
        have hy' := hide' hy
        have hltb : c < lb.length := by omega
        by_cases hxy : x = y
        · subst hxy
          clear hx hy
          go_wp2
          go_region
          go_wp2
          exact ⟨⟨hB.drew, c + 1, by omega, by go_num, by show _ = _; rw [List.take_add_one, List.take_add_one, hE.out, hx'.out, hy'.out]⟩, by simp [intOf]; omega⟩
        · have hd : (x != y) = true := by simpa using hxy
          clear hx hy
          go_wp2
          go_region
          go_wp2
          go_ret
          exact ⟨ret_bool (by rw [eq_comm]; simp only [decide_eq_false_iff_not]; intro e; subst e; rw [hx'.out] at hy'; exact hxy (Option.some.inj hy'.out)), hB.drew⟩
      · obtain rfl : c = la.length := by omega
        have e : Hid (la = lb) := by
          show _ = _
          have := hE.out
          rwa [List.take_length, hl, List.take_length] at this
        clear hE hca' hcb'
        go_wp2
        go_ret
        exact ⟨ret_bool (by simp [e.out]), hB⟩
  · have hd : ((la.length : Int) != (lb.length : Int)) = true := by rw [bne_iff_ne]; omega
    clear hca hcb
    go_enter Tryz.func24, Tryz.ntmps24
    go_wp2
    go_ret
    exact ⟨ret_bool (by rw [eq_comm]; simp only [decide_eq_false_iff_not]; intro e; exact hl (by rw [e])), Below.refl _ _⟩
end Go.Proofs.YtlijlelejobchaaGreatDoor

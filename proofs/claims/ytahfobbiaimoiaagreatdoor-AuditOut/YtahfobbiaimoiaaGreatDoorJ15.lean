/- A run's log, copied. -/
import Derived.Test.YtahfobbiaimoiaaGreatDoorJ04
import Derived.Test.YtahfobbiaimoiaaGreatDoorJ07
import Derived.Test.YtahfobbiaimoiaaGreatDoorJ13
import Derived.Test.YtahfobbiaimoiaaGreatDoorJ14
import Derived.Deep.RegionHeld3
namespace Go.Proofs.YtahfobbiaimoiaaGreatDoor
open Go.RowKit
theorem three_set {α : Type} (f : α → List Value) (hf : ∀ a, (f a).length = 3) (hat : ∀ (L : List α) (i j : Nat), j < 3 → (L.flatMap f)[i * 3 + j]? = L[i]?.bind fun t => (f t)[j]?) (L : List α) (i : Nat) (x y : α) (v : Value) (hx : L[i]? = some x) (h0 : (f y)[0]? = (f x)[0]?) (h1 : (f y)[1]? = (f x)[1]?) (h2 : (f y)[2]? = some v) : (L.flatMap f).set (i * 3 + 2) v = (L.set i y).flatMap f := by
  have hi := (List.getElem?_eq_some_iff.1 hx).1
  apply List.ext_getElem?
  intro k
  have e : k = (k / 3) * 3 + k % 3 := by omega
  have hk : k % 3 < 3 := by omega
  generalize k / 3 = a at *
  generalize k % 3 = b at *
  subst e
  rw [List.getElem?_set, hat L _ _ hk, hat _ _ _ hk, List.getElem?_set]
  by_cases ha : i = a
  · subst ha
    rw [if_pos rfl, if_pos hi, hx]
    have hb : b = 0 ∨ b = 1 ∨ b = 2 := by omega
    rcases hb with rfl | rfl | rfl
    · rw [if_neg (by omega)]; exact h0.symm
    · rw [if_neg (by omega)]; exact h1.symm
    · have hl : i * 3 + 2 < (L.flatMap f).length := by
        have := hat L i 2 (by decide)
        rw [hx] at this
        have h3 := hf x
        have : (L.flatMap f)[i * 3 + 2]? = (f x)[2]? := this
        rw [List.getElem?_eq_getElem (show 2 < (f x).length by omega)] at this
        exact (List.getElem?_eq_some_iff.1 this).1
      rw [if_pos rfl, if_pos hl]; exact h2.symm
  · rw [if_neg ha, if_neg (by omega)]
/-- The pairs of a row that lies somewhere: each step with the slice of its numbers. -/
theorem RowS.pairs {w : World} {oa : Option Addr} {n cap : Nat} {L : List Sp} (h : RowS w (.slice oa n cap) L) : ∃ P : List (Sp × Value), P.map Prod.fst = L ∧ (∀ ad, oa = some ad → ∀ j u, (cellsS P)[j]? = some u → w.cell? (ad.add j) = some u) ∧ ∀ p ∈ P, RowI w p.2 p.1.after := by
  obtain ⟨oa', cap', e, _, hc⟩ := h
  cases e
  have hex : ∀ i : Fin L.length, ∃ sv, (∃ g o, oa = some ⟨g, o, none⟩ ∧ w.cell? ⟨g, o + i.val * 3, none⟩ = some (.string L[i].name) ∧ w.cell? ⟨g, o + i.val * 3 + 1, none⟩ = some (.string L[i].duty) ∧ w.cell? ⟨g, o + i.val * 3 + 2, none⟩ = some sv) ∧ RowI w sv L[i].after := fun i => by
    obtain ⟨g, o, sv, h1, h2, h3, h4, h5⟩ := hc i.val L[i] (List.getElem?_eq_getElem i.isLt)
    exact ⟨sv, ⟨g, o, h1, h2, h3, h4⟩, h5⟩
  obtain ⟨F, hF⟩ := Classical.axiomOfChoice hex
  have hat : ∀ i (hi : i < L.length), (List.ofFn fun i : Fin L.length => (L[i], F i))[i]? = some (L[i], F ⟨i, hi⟩) := fun i hi => by simp [hi]
  refine ⟨List.ofFn fun i : Fin L.length => (L[i], F i), ?_, fun ad ea j u hu => ?_, fun p hp => ?_⟩
  · apply List.ext_getElem?
    intro i
    rw [List.getElem?_map]
    by_cases hi : i < L.length
    · rw [hat i hi, List.getElem?_eq_getElem hi]; rfl
    · rw [List.getElem?_eq_none (by simp; omega), List.getElem?_eq_none (by omega)]; rfl
  · have e : j = (j / 3) * 3 + j % 3 := by omega
    have hk : j % 3 < 3 := by omega
    generalize j / 3 = a at *
    generalize j % 3 = b at *
    subst e
    rw [cellsS_at _ a b hk] at hu
    by_cases hi : a < L.length
    · rw [hat a hi] at hu
      obtain ⟨⟨g, o, e1, c1, c2, c3⟩, _⟩ := hF ⟨a, hi⟩
      rw [ea] at e1
      cases e1
      rw [Addr.add_lit]
      have hb : b = 0 ∨ b = 1 ∨ b = 2 := by omega
      rcases hb with rfl | rfl | rfl
      · cases hu; exact c1
      · cases hu; exact c2
      · cases hu; exact c3
    · rw [List.getElem?_eq_none (by simp; omega)] at hu
      cases hu
  · obtain ⟨i, hi⟩ := List.mem_ofFn.1 hp
    rw [← hi]
    exact (hF i).2
theorem scells_one3 (P : List (Sp × Value)) (h : ∀ p ∈ P, p.2.oneCell' = true) : ∀ u ∈ cellsS P, u.oneCell' = true := by
  intro u hu
  unfold cellsS at hu
  obtain ⟨p, hp, hs⟩ := List.mem_flatMap.1 hu
  simp [scells] at hs
  rcases hs with rfl | rfl | rfl
  · rfl
  · rfl
  · exact h p hp
theorem elSp : ElT 22 95 3 56 := ElT.mk' (z := .agg #[.string ⟨#[]⟩, .string ⟨#[]⟩, .slice none 0 0]) Tryz.underlying22 (by kernel_rfl) rfl (by decide) (by decide)
theorem eq_nilSp (w : World) : (binOp .eql 22 (.slice none 0 0) (.slice none 0 0)).run Tryz.prog w = .ok (.bool true) w := by kernel_rfl
theorem ne_nilSp (ad : Addr) (n cap : Nat) (w : World) : (binOp .eql 22 (.slice (some ad) n cap) (.slice none 0 0)).run Tryz.prog w = .ok (.bool false) w := by kernel_rfl
theorem RowI.one {w : World} {v : Value} {l : List Int} (h : RowI w v l) : v.oneCell' = true := by
  obtain ⟨oa, cap, rfl, _⟩ := h
  rfl
def ClSp (w0 w : World) (L : List Sp) (e : Ending) (w' : World) : Prop := ∃ v' P, e = .returned v' ∧ P.map Prod.fst = L ∧ (∀ p ∈ P, RowI w0 p.2 p.1.after) ∧ w'.ownsRow w.heap.size 95 3 v' P.length (cellsS P) ∧ Below w.heap.size w w'
set_option maxRecDepth 100000 in
set_option maxHeartbeats 1000000 in
theorem cloneSp (L : List Sp) (v : Value) (w0 w : World) (hr : RowS w0 v L) (hw0 : Below w0.heap.size w0 w) (hn : L.length ≤ 1000) :
    Calls Tryz.prog 101 #[v] w (ClSp w0 w L) := by
  obtain ⟨oa, cap, rfl, hcap, hc⟩ := id hr
  obtain ⟨P, hP1, hP2, hP3⟩ := hr.pairs
  have hPl : P.length = L.length := by rw [← hP1, List.length_map]
  have hP1' := hide' hP1
  have hP3' := hide' hP3
  have hone := scells_one3 P fun p hp => (hP3 p hp).one
  have hlen : (cellsS P).length = L.length * 3 := by rw [cellsS_len P, hPl]
  clear hc hr hP1 hP3
  obtain ⟨i0, z0, hi, hz0, hz1, hz2, hz3⟩ := elSp.inf
  go_enter Tryz.func101, Tryz.ntmps101
  cases oa with
  | none =>
    obtain ⟨h1, h2⟩ := hcap
    have := h2 rfl
    subst this
    have h0 : L = [] := List.eq_nil_of_length_eq_zero (by omega)
    subst h0
    have h0 : P = [] := List.eq_nil_of_length_eq_zero (by simpa using hPl)
    subst h0
    have hq := eq_nilSp w
    go_wp2
    go_ret
    exact ⟨_, [], rfl, rfl, fun p h => (by cases h), World.ownsRow_nil w _ _ _, Below.refl _ _⟩
  | some ad =>
    have hq := ne_nilSp ad L.length cap w
    have hnews : ∀ j u, (cellsS P)[j]? = some u → (w.alloc (.cells #[] 95)).cell? (ad.add j) = some u := fun j u hu => by
      have h0 := hP2 ad rfl j u hu
      have h := (hw0.cell (World.block_lt_of_cell? w0 _ h0)).trans h0
      exact (((Below.refl w.heap.size w).alloc (Nat.le_refl _) _).cell (World.block_lt_of_cell? w _ h)).trans h
    have hz : (w.alloc (.cells #[] 95)).ownsRow w.heap.size 95 3 (.slice (some ⟨w.heap.size, 0, none⟩) 0 0) 0 (cellsS []) := ⟨rfl, .inr ⟨_, 0, #[], rfl, Nat.le_refl _, heap_new w _, Nat.le_refl _, by unfold maxLen; omega, rfl, rfl⟩⟩
    go_wp2_with (at_builtin; refine wpList_append_own _ rfl _ _ 22 rfl w.heap.size 95 i0 z0 3 56 Tryz.underlying22 hi hz0 hz1 hz2 hz3 (by decide) (.slice (some ⟨w.heap.size, 0, none⟩) 0 0) 0 (cellsS []) rfl hz ad L.length cap (cellsS P) rfl hlen hnews hone (by unfold maxLen; omega) (by omega) (by simp) ?_; intro v1 w1 hown1 hgrow1 hnil)
    go_ret
    rw [Nat.zero_add] at hown1
    rw [← hPl] at hown1
    have hown : w1.ownsRow w.heap.size 95 3 v1 P.length (cellsS P) := hown1
    exact ⟨_, P, rfl, hP1'.out, hP3'.out, hown, ((Below.refl _ w).alloc (Nat.le_refl _) _).grown hgrow1 (by simp) (fun j ej => by cases ej; exact Nat.le_refl _)⟩
/-- A copy half made: the first c rows of numbers are its own. -/
structure CpS (w : World) (B : Nat) (v : Value) (P : List (Sp × Value)) (c : Nat) (W : World) : Prop where
  row : W.ownsRow B 95 3 v P.length (cellsS P)
  old : ∀ (i : Nat) (p : Sp × Value), P[i]? = some p → c ≤ i → RowI w p.2 p.1.after
  new : ∀ (i : Nat) (p : Sp × Value), P[i]? = some p → i < c → W.ownsRow B 3 1 p.2 p.1.after.length (cellsI p.1.after)
theorem CpS.over {w : World} {B : Nat} {v : Value} {P : List (Sp × Value)} {c : Nat} {W W' : World} (h : CpS w B v P c W) (hb : Below W.heap.size W W') : CpS w B v P c W' :=
  ⟨own_below h.row hb (Nat.le_refl _), h.old, fun i p hp hi => own_below (h.new i p hp hi) hb (Nat.le_refl _)⟩
theorem CpS.kept {w : World} {B : Nat} {v : Value} {P : List (Sp × Value)} {c : Nat} {W W' : World} (h : CpS w B v P c W) (hk : ∀ k, k < W.heap.size → B ≤ k → W'.heap[k]? = W.heap[k]?) : CpS w B v P c W' :=
  ⟨own_same h.row fun g hg e => hk g hg (own_ge' h.row e), h.old, fun i p hp hi => own_same (h.new i p hp hi) fun g hg e => hk g hg (own_ge' (h.new i p hp hi) e)⟩
theorem CpS.set {w : World} {B g n cap : Nat} {P : List (Sp × Value)} {c : Nat} {W : World} (h : CpS w B (.slice (some ⟨g, 0, none⟩) n cap) P c W) (hn : n = P.length) {p : Sp × Value} (hp : P[c]? = some p) {v' : Value} (hv : W.ownsRow B 3 1 v' p.1.after.length (cellsI p.1.after)) :
    CpS w B (.slice (some ⟨g, 0, none⟩) n cap) (P.set c (p.1, v')) (c + 1) (W.setCell ⟨g, c * 3 + 2, none⟩ v') := by
  subst hn
  have hg : ∀ {x : Value} {m : Nat} {xs : List Value}, W.ownsRow B 3 1 x m xs → (W.setCell ⟨g, c * 3 + 2, none⟩ v').ownsRow B 3 1 x m xs := fun ho => own_same ho fun k _ e => Below.heap_setCell _ _ _ _ fun e2 => by
    obtain ⟨c1, f1, h1⟩ := Go.Lib.ownsRow_kind ho k e
    obtain ⟨c2, f2, h2⟩ := Go.Lib.ownsRow_kind h.row g rfl
    rw [e2] at h1
    have h1' : W.heap[g]? = _ := h1
    rw [h1'] at h2
    injection h2 with h2
    injection h2 with _ h2
    exact absurd h2 (by decide)
  refine ⟨?_, fun i q hq hi => ?_, fun i q hq hi => ?_⟩
  · have := (h.row.stored (c * 3 + 2) v').1
    rw [show (cellsS P).set (c * 3 + 2) v' = cellsS (P.set c (p.1, v')) from three_set scells (fun _ => rfl) cellsS_at P c p (p.1, v') v' hp rfl rfl rfl] at this
    rw [List.length_set]
    exact this
  · rw [List.getElem?_set, if_neg (by omega)] at hq
    exact h.old i q hq (by omega)
  · rw [List.getElem?_set] at hq
    split at hq
    · split at hq
      · cases hq; exact hg hv
      · cases hq
    · exact hg (h.new i q hq (by omega))
theorem CpS.done {w : World} {B : Nat} {v : Value} {P : List (Sp × Value)} {c : Nat} {W : World} (h : CpS w B v P c W) (hc : P.length ≤ c) : TwP B W v P :=
  ⟨h.row, fun p hp => by
    obtain ⟨i, hi, e⟩ := List.getElem_of_mem hp
    exact h.new i p (by rw [List.getElem?_eq_getElem hi, e]) (by omega)⟩
theorem CpS.at {w : World} {B g n cap : Nat} {P : List (Sp × Value)} {c : Nat} {W : World} (h : CpS w B (.slice (some ⟨g, 0, none⟩) n cap) P c W) (hn : n = P.length) {p : Sp × Value} (hp : P[c]? = some p) : W.cell? ⟨g, c * 3 + 2, none⟩ = some p.2 ∧ W.frozen? ⟨g, c * 3 + 2, none⟩ = false := by
  subst hn
  have hi := (List.getElem?_eq_some_iff.1 hp).1
  have a2 := h.row.cellAt (c * 3 + 2) (by omega)
  rw [cellsS_at P c 2 (by decide), hp] at a2
  exact ⟨a2, h.row.frozenAt _⟩
end Go.Proofs.YtahfobbiaimoiaaGreatDoor
namespace Go.Proofs.YtahfobbiaimoiaaGreatDoor
open Go.RowKit
/-- The pairs of a row that lies somewhere: each step with the slice of its numbers. -/
theorem RowR.pairs {w : World} {oa : Option Addr} {n cap : Nat} {L : List Rl} (h : RowR w (.slice oa n cap) L) : ∃ P : List (Rl × Value), P.map Prod.fst = L ∧ (∀ ad, oa = some ad → ∀ j u, (cellsR P)[j]? = some u → w.cell? (ad.add j) = some u) ∧ ∀ p ∈ P, RowI w p.2 p.1.steps := by
  obtain ⟨oa', cap', e, _, hc⟩ := h
  cases e
  have hex : ∀ i : Fin L.length, ∃ sv, (∃ g o, oa = some ⟨g, o, none⟩ ∧ w.cell? ⟨g, o + i.val * 3, none⟩ = some (.int .i64 L[i].kind) ∧ w.cell? ⟨g, o + i.val * 3 + 1, none⟩ = some (.int .i64 L[i].k) ∧ w.cell? ⟨g, o + i.val * 3 + 2, none⟩ = some sv) ∧ RowI w sv L[i].steps := fun i => by
    obtain ⟨g, o, sv, h1, h2, h3, h4, h5⟩ := hc i.val L[i] (List.getElem?_eq_getElem i.isLt)
    exact ⟨sv, ⟨g, o, h1, h2, h3, h4⟩, h5⟩
  obtain ⟨F, hF⟩ := Classical.axiomOfChoice hex
  have hat : ∀ i (hi : i < L.length), (List.ofFn fun i : Fin L.length => (L[i], F i))[i]? = some (L[i], F ⟨i, hi⟩) := fun i hi => by simp [hi]
  refine ⟨List.ofFn fun i : Fin L.length => (L[i], F i), ?_, fun ad ea j u hu => ?_, fun p hp => ?_⟩
  · apply List.ext_getElem?
    intro i
    rw [List.getElem?_map]
    by_cases hi : i < L.length
    · rw [hat i hi, List.getElem?_eq_getElem hi]; rfl
    · rw [List.getElem?_eq_none (by simp; omega), List.getElem?_eq_none (by omega)]; rfl
  · have e : j = (j / 3) * 3 + j % 3 := by omega
    have hk : j % 3 < 3 := by omega
    generalize j / 3 = a at *
    generalize j % 3 = b at *
    subst e
    rw [cellsR_at _ a b hk] at hu
    by_cases hi : a < L.length
    · rw [hat a hi] at hu
      obtain ⟨⟨g, o, e1, c1, c2, c3⟩, _⟩ := hF ⟨a, hi⟩
      rw [ea] at e1
      cases e1
      rw [Addr.add_lit]
      have hb : b = 0 ∨ b = 1 ∨ b = 2 := by omega
      rcases hb with rfl | rfl | rfl
      · cases hu; exact c1
      · cases hu; exact c2
      · cases hu; exact c3
    · rw [List.getElem?_eq_none (by simp; omega)] at hu
      cases hu
  · obtain ⟨i, hi⟩ := List.mem_ofFn.1 hp
    rw [← hi]
    exact (hF i).2
theorem rcells_one3 (P : List (Rl × Value)) (h : ∀ p ∈ P, p.2.oneCell' = true) : ∀ u ∈ cellsR P, u.oneCell' = true := by
  intro u hu
  unfold cellsR at hu
  obtain ⟨p, hp, hs⟩ := List.mem_flatMap.1 hu
  simp [rcells] at hs
  rcases hs with rfl | rfl | rfl
  · rfl
  · rfl
  · exact h p hp
theorem elRl : ElT 23 82 3 40 := ElT.mk' (z := .agg #[.int .i64 0, .int .i64 0, .slice none 0 0]) Tryz.underlying23 (by kernel_rfl) rfl (by decide) (by decide)
theorem eq_nilRl (w : World) : (binOp .eql 23 (.slice none 0 0) (.slice none 0 0)).run Tryz.prog w = .ok (.bool true) w := by kernel_rfl
theorem ne_nilRl (ad : Addr) (n cap : Nat) (w : World) : (binOp .eql 23 (.slice (some ad) n cap) (.slice none 0 0)).run Tryz.prog w = .ok (.bool false) w := by kernel_rfl
def ClRl (w0 w : World) (L : List Rl) (e : Ending) (w' : World) : Prop := ∃ v' P, e = .returned v' ∧ P.map Prod.fst = L ∧ (∀ p ∈ P, RowI w0 p.2 p.1.steps) ∧ w'.ownsRow w.heap.size 82 3 v' P.length (cellsR P) ∧ Below w.heap.size w w'
set_option maxRecDepth 100000 in
set_option maxHeartbeats 1000000 in
theorem cloneRl (L : List Rl) (v : Value) (w0 w : World) (hr : RowR w0 v L) (hw0 : Below w0.heap.size w0 w) (hn : L.length ≤ 1000) :
    Calls Tryz.prog 102 #[v] w (ClRl w0 w L) := by
  obtain ⟨oa, cap, rfl, hcap, hc⟩ := id hr
  obtain ⟨P, hP1, hP2, hP3⟩ := hr.pairs
  have hPl : P.length = L.length := by rw [← hP1, List.length_map]
  have hP1' := hide' hP1
  have hP3' := hide' hP3
  have hone := rcells_one3 P fun p hp => (hP3 p hp).one
  have hlen : (cellsR P).length = L.length * 3 := by rw [cellsR_len P, hPl]
  clear hc hr hP1 hP3
  obtain ⟨i0, z0, hi, hz0, hz1, hz2, hz3⟩ := elRl.inf
  go_enter Tryz.func102, Tryz.ntmps102
  cases oa with
  | none =>
    obtain ⟨h1, h2⟩ := hcap
    have := h2 rfl
    subst this
    have h0 : L = [] := List.eq_nil_of_length_eq_zero (by omega)
    subst h0
    have h0 : P = [] := List.eq_nil_of_length_eq_zero (by simpa using hPl)
    subst h0
    have hq := eq_nilRl w
    go_wp2
    go_ret
    exact ⟨_, [], rfl, rfl, fun p h => (by cases h), World.ownsRow_nil w _ _ _, Below.refl _ _⟩
  | some ad =>
    have hq := ne_nilRl ad L.length cap w
    have hnews : ∀ j u, (cellsR P)[j]? = some u → (w.alloc (.cells #[] 82)).cell? (ad.add j) = some u := fun j u hu => by
      have h0 := hP2 ad rfl j u hu
      have h := (hw0.cell (World.block_lt_of_cell? w0 _ h0)).trans h0
      exact (((Below.refl w.heap.size w).alloc (Nat.le_refl _) _).cell (World.block_lt_of_cell? w _ h)).trans h
    have hz : (w.alloc (.cells #[] 82)).ownsRow w.heap.size 82 3 (.slice (some ⟨w.heap.size, 0, none⟩) 0 0) 0 (cellsR []) := ⟨rfl, .inr ⟨_, 0, #[], rfl, Nat.le_refl _, heap_new w _, Nat.le_refl _, by unfold maxLen; omega, rfl, rfl⟩⟩
    go_wp2_with (at_builtin; refine wpList_append_own _ rfl _ _ 23 rfl w.heap.size 82 i0 z0 3 40 Tryz.underlying23 hi hz0 hz1 hz2 hz3 (by decide) (.slice (some ⟨w.heap.size, 0, none⟩) 0 0) 0 (cellsR []) rfl hz ad L.length cap (cellsR P) rfl hlen hnews hone (by unfold maxLen; omega) (by omega) (by simp) ?_; intro v1 w1 hown1 hgrow1 hnil)
    go_ret
    rw [Nat.zero_add] at hown1
    rw [← hPl] at hown1
    have hown : w1.ownsRow w.heap.size 82 3 v1 P.length (cellsR P) := hown1
    exact ⟨_, P, rfl, hP1'.out, hP3'.out, hown, ((Below.refl _ w).alloc (Nat.le_refl _) _).grown hgrow1 (by simp) (fun j ej => by cases ej; exact Nat.le_refl _)⟩
/-- A copy half made: the first c rows of numbers are its own. -/
structure CpR (w : World) (B : Nat) (v : Value) (P : List (Rl × Value)) (c : Nat) (W : World) : Prop where
  row : W.ownsRow B 82 3 v P.length (cellsR P)
  old : ∀ (i : Nat) (p : Rl × Value), P[i]? = some p → c ≤ i → RowI w p.2 p.1.steps
  new : ∀ (i : Nat) (p : Rl × Value), P[i]? = some p → i < c → W.ownsRow B 3 1 p.2 p.1.steps.length (cellsI p.1.steps)
theorem CpR.over {w : World} {B : Nat} {v : Value} {P : List (Rl × Value)} {c : Nat} {W W' : World} (h : CpR w B v P c W) (hb : Below W.heap.size W W') : CpR w B v P c W' :=
  ⟨own_below h.row hb (Nat.le_refl _), h.old, fun i p hp hi => own_below (h.new i p hp hi) hb (Nat.le_refl _)⟩
theorem CpR.kept {w : World} {B : Nat} {v : Value} {P : List (Rl × Value)} {c : Nat} {W W' : World} (h : CpR w B v P c W) (hk : ∀ k, k < W.heap.size → B ≤ k → W'.heap[k]? = W.heap[k]?) : CpR w B v P c W' :=
  ⟨own_same h.row fun g hg e => hk g hg (own_ge' h.row e), h.old, fun i p hp hi => own_same (h.new i p hp hi) fun g hg e => hk g hg (own_ge' (h.new i p hp hi) e)⟩
theorem CpR.set {w : World} {B g n cap : Nat} {P : List (Rl × Value)} {c : Nat} {W : World} (h : CpR w B (.slice (some ⟨g, 0, none⟩) n cap) P c W) (hn : n = P.length) {p : Rl × Value} (hp : P[c]? = some p) {v' : Value} (hv : W.ownsRow B 3 1 v' p.1.steps.length (cellsI p.1.steps)) :
    CpR w B (.slice (some ⟨g, 0, none⟩) n cap) (P.set c (p.1, v')) (c + 1) (W.setCell ⟨g, c * 3 + 2, none⟩ v') := by
  subst hn
  have hg : ∀ {x : Value} {m : Nat} {xs : List Value}, W.ownsRow B 3 1 x m xs → (W.setCell ⟨g, c * 3 + 2, none⟩ v').ownsRow B 3 1 x m xs := fun ho => own_same ho fun k _ e => Below.heap_setCell _ _ _ _ fun e2 => by
    obtain ⟨c1, f1, h1⟩ := Go.Lib.ownsRow_kind ho k e
    obtain ⟨c2, f2, h2⟩ := Go.Lib.ownsRow_kind h.row g rfl
    rw [e2] at h1
    have h1' : W.heap[g]? = _ := h1
    rw [h1'] at h2
    injection h2 with h2
    injection h2 with _ h2
    exact absurd h2 (by decide)
  refine ⟨?_, fun i q hq hi => ?_, fun i q hq hi => ?_⟩
  · have := (h.row.stored (c * 3 + 2) v').1
    rw [show (cellsR P).set (c * 3 + 2) v' = cellsR (P.set c (p.1, v')) from three_set rcells (fun _ => rfl) cellsR_at P c p (p.1, v') v' hp rfl rfl rfl] at this
    rw [List.length_set]
    exact this
  · rw [List.getElem?_set, if_neg (by omega)] at hq
    exact h.old i q hq (by omega)
  · rw [List.getElem?_set] at hq
    split at hq
    · split at hq
      · cases hq; exact hg hv
      · cases hq
    · exact hg (h.new i q hq (by omega))
theorem CpR.done {w : World} {B : Nat} {v : Value} {P : List (Rl × Value)} {c : Nat} {W : World} (h : CpR w B v P c W) (hc : P.length ≤ c) : TwS B W v P :=
  ⟨h.row, fun p hp => by
    obtain ⟨i, hi, e⟩ := List.getElem_of_mem hp
    exact h.new i p (by rw [List.getElem?_eq_getElem hi, e]) (by omega)⟩
theorem CpR.at {w : World} {B g n cap : Nat} {P : List (Rl × Value)} {c : Nat} {W : World} (h : CpR w B (.slice (some ⟨g, 0, none⟩) n cap) P c W) (hn : n = P.length) {p : Rl × Value} (hp : P[c]? = some p) : W.cell? ⟨g, c * 3 + 2, none⟩ = some p.2 ∧ W.frozen? ⟨g, c * 3 + 2, none⟩ = false := by
  subst hn
  have hi := (List.getElem?_eq_some_iff.1 hp).1
  have a2 := h.row.cellAt (c * 3 + 2) (by omega)
  rw [cellsR_at P c 2 (by decide), hp] at a2
  exact ⟨a2, h.row.frozenAt _⟩
end Go.Proofs.YtahfobbiaimoiaaGreatDoor
namespace Go.Proofs.YtahfobbiaimoiaaGreatDoor
open Go.RowKit
section
variable {W : World} {B gr gt : Nat} {nm : ByteArray} {sv rv : Value} {go ct : Nat} {lv : Value} {R : Rs}
set_option maxHeartbeats 400000 in
theorem endedF (h : RnAt W B gr gt nm sv rv go ct lv R) :
    Calls Tryz.prog 54 #[.pointer (some ⟨gr, 0, none⟩)] W fun e w' => e = .returned (.bool (endd R)) ∧ w' = W := by
  have c5 := h.c5
  unfold endd
  generalize R.stat = st at *
  clear h
  by_cases h3 : st = 3
  · subst h3
    go_enter Tryz.func54, Tryz.ntmps54
    go_wp2
    go_ret
    exact ⟨rfl, rfl⟩
  · have h3' : (st == 3) = false := by rw [beq_eq_false_iff_ne]; exact h3
    go_enter Tryz.func54, Tryz.ntmps54
    go_wp2
    go_ret
    exact ⟨ret_bool (by simp [h3]; rw [Bool.eq_iff_iff]; simp), rfl⟩
set_option maxHeartbeats 400000 in
theorem hasF (h : RnAt W B gr gt nm sv rv go ct lv R) (step : Int) :
    Calls Tryz.prog 53 #[.pointer (some ⟨gr, 0, none⟩), .int .i64 step] W fun e w' => e = .returned (.bool (hasS R step)) ∧ w' = W := by
  have c4 := h.c4
  unfold hasS
  generalize R.S.length = n at *
  clear h
  by_cases h0 : 0 ≤ step
  · have h0' : decide (0 ≤ step) = true := decide_eq_true h0
    go_enter Tryz.func53, Tryz.ntmps53
    go_wp2
    go_ret
    exact ⟨ret_bool (by simp [h0]), rfl⟩
  · have h0' : decide (0 ≤ step) = false := decide_eq_false h0
    go_enter Tryz.func53, Tryz.ntmps53
    go_wp2
    go_ret
    exact ⟨ret_bool (by simp), rfl⟩
set_option maxHeartbeats 400000 in
theorem statusF (h : RnAt W B gr gt nm sv rv go ct lv R) :
    Calls Tryz.prog 15 #[.pointer (some ⟨gr, 0, none⟩)] W fun e w' => e = .returned (.int .i64 R.stat) ∧ w' = W := by
  have c5 := h.c5
  go_enter Tryz.func15, Tryz.ntmps15
  go_wp2
  go_ret
  exact ⟨rfl, rfl⟩
theorem accB_next (f : Nat → Bool) (k : Nat) : O.accB f (k + 1) = if f k = true then O.accB f k ||| 2 ^ k else O.accB f k := O.accB_snoc f k
set_option maxRecDepth 100000 in
set_option maxHeartbeats 2000000 in
theorem thoseF (h : RnAt W B gr gt nm sv rv go ct lv R) (k : Int) (hn : R.S.length ≤ 64) :
    Calls Tryz.prog 56 #[.pointer (some ⟨gr, 0, none⟩), .int .i64 k] W fun e w' => e = .returned (.int .u64 (thz R.S k : Int)) ∧ Below W.heap.size W w' := by
  have c4 := h.c4
  have hA : Hid (∀ i s V, R.S[i]? = some s → Below W.heap.size W V → V.cell? ⟨gt, i * 4, none⟩ = some (.int .i64 s.st) ∧ V.cell? ⟨gt, i * 4 + 1, none⟩ = some (.int .i64 s.us) ∧ V.cell? ⟨gt, i * 4 + 2, none⟩ = some (.int .i64 s.ca) ∧ V.cell? ⟨gt, i * 4 + 3, none⟩ = some (.int .i64 s.da)) := fun i s V hs hV => (h.over hV).at hs
  have hcap := h.cap
  clear h
  unfold thz
  go_enter Tryz.func56, Tryz.ntmps56
  go_wp2
  go_loopw [5, 13] (fun v j wr => ∃ (c : Nat), c ≤ R.S.length ∧ j = .int .i64 c ∧ v = .int .u64 (O.accB (thB R.S k) c : Nat) ∧ Hid (Below W.heap.size W wr)) (fun _ j _ => ((R.S.length : Int) - intOf j).toNat)
  case atStart => exact ⟨0, Nat.zero_le _, rfl, rfl, Below.refl _ _⟩
  case round =>
    obtain ⟨c, hcl, rfl, rfl, hB⟩ := hrel
    have hlt0 := O.accB_lt (thB R.S k) (k := c) (by omega)
    have hN := hide' (accB_next (thB R.S k) c)
    by_cases hlt : c < R.S.length
    · obtain ⟨s, hx⟩ : ∃ x, R.S[c]? = some x := ⟨_, List.getElem?_eq_getElem hlt⟩
      obtain ⟨a0, a1, a2, a3⟩ := hA.out c s wr hx hB.out
      have hth : Hid (thB R.S k c = decide (s.st = k)) := by show _ = _; unfold thB; rw [hx]; simp
      rw [hth.out] at hN
      have hsh := O.shlc c (by omega)
      have hpw : (2 ^ c : Nat) < 18446744073709551616 := Nat.lt_of_lt_of_le (Nat.pow_lt_pow_right (by decide) (show c < 64 by omega)) (by decide)
      have hor := u64_or_nat (O.accB (thB R.S k) c) (2 ^ c) hlt0 hpw
      generalize hy : O.accB (thB R.S k) (c + 1) = y at *
      have hy' := hide' hy
      clear hA hx hth hy
      generalize s.st = t0 at *
      generalize s.us = t1 at *
      generalize s.ca = t2 at *
      generalize s.da = t3 at *
      by_cases e : t0 = k
      · subst e
        have hq : y = O.accB (thB R.S t0) c ||| 2 ^ c := by rw [hN.out]; simp
        rw [← hq] at hor
        clear hN hq hlt0
        generalize O.accB (thB R.S t0) c = x at *
        generalize 2 ^ c = pw at *
        go_wp2
        exact ⟨⟨c + 1, by omega, by go_num, by rw [hy'.out], hB.out.alloc hB.out.size _⟩, by simp [intOf]; omega⟩
      · have e' : (t0 == k) = false := by rw [beq_eq_false_iff_ne]; exact e
        have hq : Hid (y = O.accB (thB R.S k) c) := by show _ = _; rw [hN.out]; simp [e]
        clear hN hor hsh hpw
        go_wp2
        exact ⟨⟨c + 1, by omega, by go_num, by rw [hy'.out, hq.out], hB.out.alloc hB.out.size _⟩, by simp [intOf]; omega⟩
    · obtain rfl : c = R.S.length := by omega
      clear hA hN
      go_wp2
      go_ret
      exact ⟨rfl, hB.out⟩
theorem take_next {α : Type} {l : List α} {c : Nat} {x : α} (h : l[c]? = some x) : l.take (c + 1) = l.take c ++ [x] := by
  rw [List.take_add_one, h]; rfl
set_option maxRecDepth 100000 in
set_option maxHeartbeats 2000000 in
theorem leftF (h : RnAt W B gr gt nm sv rv go ct lv R) (hn : R.S.length ≤ 1000) :
    Calls Tryz.prog 39 #[.pointer (some ⟨gr, 0, none⟩)] W fun e w' => e = .returned (.tuple #[.int .i64 (lefA R.S : Nat), .int .i64 (lefB R.S : Nat)]) ∧ Below W.heap.size W w' := by
  have c4 := h.c4
  have hA : Hid (∀ i s V, R.S[i]? = some s → Below W.heap.size W V → V.cell? ⟨gt, i * 4, none⟩ = some (.int .i64 s.st) ∧ V.cell? ⟨gt, i * 4 + 1, none⟩ = some (.int .i64 s.us) ∧ V.cell? ⟨gt, i * 4 + 2, none⟩ = some (.int .i64 s.ca) ∧ V.cell? ⟨gt, i * 4 + 3, none⟩ = some (.int .i64 s.da)) := fun i s V hs hV => (h.over hV).at hs
  have hcap := h.cap
  clear h
  go_enter Tryz.func39, Tryz.ntmps39
  go_wp2
  go_loopw [2, 3, 11] (fun a b j wr => ∃ (c : Nat), c ≤ R.S.length ∧ j = .int .i64 c ∧ a = .int .i64 (lefA (R.S.take c) : Nat) ∧ b = .int .i64 (lefB (R.S.take c) : Nat) ∧ Hid (Below W.heap.size W wr)) (fun _ _ j _ => ((R.S.length : Int) - intOf j).toNat)
  case atStart => exact ⟨0, Nat.zero_le _, rfl, rfl, rfl, Below.refl _ _⟩
  case round =>
    obtain ⟨c, hcl, rfl, rfl, rfl, hB⟩ := hrel
    by_cases hlt : c < R.S.length
    · obtain ⟨s, hx⟩ : ∃ x, R.S[c]? = some x := ⟨_, List.getElem?_eq_getElem hlt⟩
      obtain ⟨a0, a1, a2, a3⟩ := hA.out c s wr hx hB.out
      have n1 : Hid (lefA (R.S.take (c + 1)) = lefA (R.S.take c) + if s.st = 0 then 1 else 0) := by show _ = _; rw [take_next hx, lefA_snoc]
      have n2 : Hid (lefB (R.S.take (c + 1)) = lefB (R.S.take c) + if s.st = 0 ∨ s.st = 1 then 1 else 0) := by show _ = _; rw [take_next hx, lefB_snoc]
      have l1 : lefA (R.S.take c) ≤ 1000 := by have := lefA_le (R.S.take c); simp at this; omega
      have l2 : lefB (R.S.take c) ≤ 1000 := by have := lefB_le (R.S.take c); simp at this; omega
      generalize hy1 : lefA (R.S.take (c + 1)) = y1 at *
      generalize hy2 : lefB (R.S.take (c + 1)) = y2 at *
      have e1 := hide' hy1
      have e2 := hide' hy2
      clear hA hx hy1 hy2
      generalize lefA (R.S.take c) = x1 at *
      generalize lefB (R.S.take c) = x2 at *
      generalize s.st = t0 at *
      generalize s.us = t1 at *
      generalize s.ca = t2 at *
      generalize s.da = t3 at *
      by_cases h0 : t0 = 0
      · subst h0
        have m1 : Hid (y1 = x1 + 1) := n1.out
        have m2 : Hid (y2 = x2 + 1) := by show _ = _; rw [n2.out]; simp
        clear n1 n2
        go_wp2
        exact ⟨⟨c + 1, by omega, by go_num, by rw [e1.out, m1.out]; go_num, by rw [e2.out, m2.out]; go_num, hB.out.alloc hB.out.size _⟩, by simp [intOf]; omega⟩
      · have h0' : (t0 == 0) = false := by rw [beq_eq_false_iff_ne]; exact h0
        by_cases h1 : t0 = 1
        · subst h1
          have m1 : Hid (y1 = x1) := n1.out
          have m2 : Hid (y2 = x2 + 1) := by show _ = _; rw [n2.out]; simp
          clear n1 n2
          go_wp2
          exact ⟨⟨c + 1, by omega, by go_num, by rw [e1.out, m1.out], by rw [e2.out, m2.out]; go_num, hB.out.alloc hB.out.size _⟩, by simp [intOf]; omega⟩
        · have h1' : (t0 == 1) = false := by rw [beq_eq_false_iff_ne]; exact h1
          have m1 : Hid (y1 = x1) := by show _ = _; rw [n1.out]; simp [h0]
          have m2 : Hid (y2 = x2) := by show _ = _; rw [n2.out]; simp [h0, h1]
          clear n1 n2
          go_wp2
          exact ⟨⟨c + 1, by omega, by go_num, by rw [e1.out, m1.out], by rw [e2.out, m2.out], hB.out.alloc hB.out.size _⟩, by simp [intOf]; omega⟩
    · obtain rfl : c = R.S.length := by omega
      have el : Hid (R.S.take R.S.length = R.S) := List.take_length
      clear hA
      go_wp2
      go_ret2
      exact ⟨by rw [el.out]; rfl, hB.out⟩
/-- What State answers. -/
def stV (s : SS) : Value := .agg #[.int .i64 s.st, .int .i64 s.us, .int .i64 s.ca, .int .i64 s.da]
def staT (R : Rs) (step : Int) : Value := if hasS R step = true then stV (sAt R step) else stV ⟨0, 0, 0, 0⟩
set_option maxRecDepth 100000 in
set_option maxHeartbeats 2000000 in
theorem stateF (h : RnAt W B gr gt nm sv rv go ct lv R) (step : Int) :
    Calls Tryz.prog 14 #[.pointer (some ⟨gr, 0, none⟩), .int .i64 step] W fun e w' => e = .returned (.tuple #[staT R step, .bool (hasS R step)]) ∧ Below W.heap.size W w' := by
  have c4 := (h.over ((Below.refl _ W).alloc (Nat.le_refl _) (.cells #[.int .i64 0, .int .i64 0, .int .i64 0, .int .i64 0] 42))).c4
  have KH := hide' (hasF (h.over ((Below.refl _ W).alloc (Nat.le_refl _) (.cells #[.int .i64 0, .int .i64 0, .int .i64 0, .int .i64 0] 42))) step)
  have hcap := h.cap
  cases hh : hasS R step with
  | false =>
    rw [hh] at KH
    have hz : Hid (staT R step = .agg #[.int .i64 0, .int .i64 0, .int .i64 0, .int .i64 0]) := by show _ = _; unfold staT; rw [hh]; rfl
    clear h hh
    go_enter Tryz.func14, Tryz.ntmps14
    go_wp2_with (go_at_call 53; refine KH.out.mono ?_; rintro e w1 ⟨rfl, rfl⟩)
    rw [hz.out]
    exact bodyPost_ret (v := .tuple #[.agg #[.int .i64 0, .int .i64 0, .int .i64 0, .int .i64 0], .bool false]) (by simp [results, Tryz.results14, go_sem]) rfl ⟨rfl, (Below.refl _ W).alloc (Nat.le_refl _) _⟩
  | true =>
    rw [hh] at KH
    have hs := sAt_some hh
    obtain ⟨a0, a1, a2, a3⟩ := (h.over ((Below.refl _ W).alloc (Nat.le_refl _) (.cells #[.int .i64 0, .int .i64 0, .int .i64 0, .int .i64 0] 42))).at hs
    have hz : Hid (staT R step = .agg #[.int .i64 (sAt R step).st, .int .i64 (sAt R step).us, .int .i64 (sAt R step).ca, .int .i64 (sAt R step).da]) := by show _ = _; unfold staT; rw [hh]; rfl
    obtain ⟨g0, g1, g2⟩ := hasS_iff hh
    clear h hh hs
    generalize step.toNat = k at *
    subst g2
    generalize (sAt R (k : Int)).st = t0 at *
    generalize (sAt R (k : Int)).us = t1 at *
    generalize (sAt R (k : Int)).ca = t2 at *
    generalize (sAt R (k : Int)).da = t3 at *
    go_enter Tryz.func14, Tryz.ntmps14
    go_wp2_with (go_at_call 53; refine KH.out.mono ?_; rintro e w1 ⟨rfl, rfl⟩)
    rw [hz.out]
    exact bodyPost_ret (v := .tuple #[.agg #[.int .i64 t0, .int .i64 t1, .int .i64 t2, .int .i64 t3], .bool true]) (by simp [results, Tryz.results14, go_sem]) rfl ⟨rfl, by first | exact (Below.refl _ W).alloc (Nat.le_refl _) _ | skip⟩
end
end Go.Proofs.YtahfobbiaimoiaaGreatDoor
namespace Go.Proofs.YtahfobbiaimoiaaGreatDoor
open Go.RowKit
structure FrR (gr gt : Nat) (lv : Value) (W W' : World) : Prop where
  os : W'.os = W.os
  tape : W'.tape = W.tape
  output : W'.output = W.output
  size : W.heap.size ≤ W'.heap.size
  blk : ∀ k, k < W.heap.size → k ≠ gr → k ≠ gt → lv.ownBlock ≠ some k → W'.heap[k]? = W.heap[k]?
/-- The new log lies in the old one's block, or in new memory. -/
def NwL (n : Nat) (lv lv' : Value) : Prop := ∀ g, lv'.ownBlock = some g → lv.ownBlock = some g ∨ n ≤ g
theorem NwL.refl (n : Nat) (lv : Value) : NwL n lv lv := fun _ h => .inl h
theorem NwL.trans {n m : Nat} {a b c : Value} (h : NwL n a b) (k : NwL m b c) (hm : n ≤ m) : NwL n a c := fun g hg => by
  rcases k g hg with h1 | h1
  · exact h g h1
  · exact .inr (by omega)
theorem FrR.of_below {gr gt : Nat} {lv : Value} {W W' : World} (h : Below W.heap.size W W') : FrR gr gt lv W W' := ⟨h.os, h.tape, h.output, h.size, fun k hk _ _ _ => h.block k hk⟩
theorem FrR.refl (gr gt : Nat) (lv : Value) (W : World) : FrR gr gt lv W W := .of_below (Below.refl _ _)
theorem FrR.trans {gr gt : Nat} {lv lv1 : Value} {W W1 W2 : World} (h : FrR gr gt lv W W1) (k : FrR gr gt lv1 W1 W2) (hn : NwL W.heap.size lv lv1) : FrR gr gt lv W W2 :=
  ⟨k.os.trans h.os, k.tape.trans h.tape, k.output.trans h.output, Nat.le_trans h.size k.size, fun b hb h1 h2 h3 => (k.blk b (Nat.lt_of_lt_of_le hb h.size) h1 h2 fun e => by
    rcases hn b e with e1 | e1
    · exact h3 e1
    · omega).trans (h.blk b hb h1 h2 h3)⟩
theorem FrR.set {gr gt : Nat} {lv : Value} {W W' : World} (h : FrR gr gt lv W W') (i : Nat) (v : Value) : FrR gr gt lv W (W'.setCell ⟨gr, i, none⟩ v) :=
  ⟨h.os, h.tape, h.output, by simpa using h.size, fun k hk h1 h2 h3 => (Below.heap_setCell W' ⟨gr, i, none⟩ v k h1).trans (h.blk k hk h1 h2 h3)⟩
theorem FrR.setT {gr gt : Nat} {lv : Value} {W W' : World} (h : FrR gr gt lv W W') (i : Nat) (v : Value) : FrR gr gt lv W (W'.setCell ⟨gt, i, none⟩ v) :=
  ⟨h.os, h.tape, h.output, by simpa using h.size, fun k hk h1 h2 h3 => (Below.heap_setCell W' ⟨gt, i, none⟩ v k h2).trans (h.blk k hk h1 h2 h3)⟩
theorem FrR.below {gr gt : Nat} {lv : Value} {W W' : World} {B : Nat} (h : FrR gr gt lv W W') (hB : B ≤ W.heap.size) (h1 : B ≤ gr) (h2 : B ≤ gt) (h3 : ∀ g, lv.ownBlock = some g → B ≤ g) : Below B W W' :=
  ⟨h.os, h.tape, h.output, h.size, fun k hk => h.blk k (by omega) (by omega) (by omega) fun e => by have := h3 k e; omega⟩
theorem kind_ne {W : World} {B : Nat} {e : TypeId} {sz : Nat} {v : Value} {n : Nat} {xs : List Value} (h : W.ownsRow B e sz v n xs) {g : Nat} {cs : Array Value} {t : TypeId} {p : Nat × Nat} (hb : W.heap[g]? = some (.cells cs t p)) (he : e ≠ t) : v.ownBlock ≠ some g := fun e1 => by
  obtain ⟨c1, f1, h1⟩ := Go.Lib.ownsRow_kind h g e1
  rw [h1] at hb
  injection hb with hb
  injection hb with _ h2
  exact he h2
theorem kind_ne2 {W : World} {B B' : Nat} {e e' : TypeId} {sz sz' : Nat} {v v' : Value} {n n' : Nat} {xs xs' : List Value} (h : W.ownsRow B e sz v n xs) (h' : W.ownsRow B' e' sz' v' n' xs') (he : e ≠ e') {g : Nat} (hg : v.ownBlock = some g) : v'.ownBlock ≠ some g := fun e1 => by
  obtain ⟨c1, f1, h1⟩ := Go.Lib.ownsRow_kind h' g e1
  exact kind_ne h h1 he hg
theorem heap_set_at {W : World} {g i : Nat} {cs : Array Value} {t : TypeId} (v : Value) (h : W.heap[g]? = some (.cells cs t (0, 0))) : (W.setCell ⟨g, i, none⟩ v).heap[g]? = some (.cells (cs.setIfInBounds i v) t (0, 0)) := heap_setCell_same W g i cs _ _ h
section
variable {W W' : World} {B gr gt : Nat} {nm : ByteArray} {sv rv : Value} {go ct : Nat} {lv : Value} {R : Rs}
theorem RnAt.gr_ne (h : RnAt W B gr gt nm sv rv go ct lv R) : gt ≠ gr := fun e => kind_ne h.st h.ob (by decide) (by rw [e]; rfl)
theorem RnAt.setStat (h : RnAt W B gr gt nm sv rv go ct lv R) (z : Int) : RnAt (W.setCell ⟨gr, 5, none⟩ (.int .i64 z)) B gr gt nm sv rv go ct lv ⟨R.S, z, R.log⟩ :=
  ⟨heap_set_at _ h.ob, own_same h.st fun g _ e => Below.heap_setCell _ _ _ _ fun e2 => kind_ne h.st h.ob (by decide) (e.trans (congrArg some e2)), own_same h.lg fun g _ e => Below.heap_setCell _ _ _ _ fun e2 => kind_ne h.lg h.ob (by decide) (e.trans (congrArg some e2))⟩
/-- An event more. -/
theorem RnAt.push (h : RnAt W B gr gt nm sv rv go ct lv R) (e : Ev) {w2 : World} {g cap : Nat} (ho : w2.ownsRow B 76 4 (.slice (some ⟨g, 0, none⟩) (R.log.length + 1) cap) (R.log.length + 1) (cellsEv R.log ++ evcells e)) (hg : W.grownBy w2 lv.ownBlock) (hn : lv.ownBlock = some g ∨ W.heap.size ≤ g) :
    RnAt (w2.setCell ⟨gr, 6, none⟩ (.slice (some ⟨g, 0, none⟩) (R.log.length + 1) cap)) B gr gt nm sv rv go ct (.slice (some ⟨g, 0, none⟩) (R.log.length + 1) cap) ⟨R.S, R.stat, R.log ++ [e]⟩ ∧ FrR gr gt lv W (w2.setCell ⟨gr, 6, none⟩ (.slice (some ⟨g, 0, none⟩) (R.log.length + 1) cap)) ∧ NwL W.heap.size lv (.slice (some ⟨g, 0, none⟩) (R.log.length + 1) cap) := by
  have k1 : w2.heap[gr]? = W.heap[gr]? := hg.block gr h.lt fun e2 => kind_ne h.lg h.ob (by decide) e2.symm
  have ob2 := k1.trans h.ob
  have st2 : w2.ownsRow B 42 4 (.slice (some ⟨gt, 0, none⟩) R.S.length ct) R.S.length (cellsSS R.S) := own_same h.st fun k hk e2 => hg.block k hk fun e3 => kind_ne2 h.st h.lg (by decide) e2 e3.symm
  refine ⟨⟨heap_set_at _ ob2, own_same st2 fun k _ e2 => Below.heap_setCell _ _ _ _ fun e3 => kind_ne st2 ob2 (by decide) (e2.trans (congrArg some e3)), ?_⟩, ?_, ?_⟩
  · have : w2.ownsRow B 76 4 (.slice (some ⟨g, 0, none⟩) (R.log.length + 1) cap) (R.log ++ [e]).length (cellsEv (R.log ++ [e])) := by
      rw [List.length_append]
      simpa [cellsEv] using ho
    exact own_same this fun k _ e2 => Below.heap_setCell _ _ _ _ fun e3 => kind_ne this ob2 (by decide) (e2.trans (congrArg some e3))
  · exact FrR.set ⟨hg.os, hg.tape, hg.output, hg.size, fun k hk _ _ h3 => hg.block k hk fun e2 => h3 e2.symm⟩ 6 _
  · intro k hk
    cases hk
    exact hn
theorem own_setcell {w : World} {B : Nat} {e : TypeId} {size g n cap : Nat} {xs : List Value} (h : w.ownsRow B e size (.slice (some ⟨g, 0, none⟩) n cap) n xs) (i : Nat) (v : Value) : (w.setCell ⟨g, i, none⟩ v).ownsRow B e size (.slice (some ⟨g, 0, none⟩) n cap) n (xs.set i v) := (h.stored i v).1
/-- A step's state written. -/
theorem RnAt.setS4 (h : RnAt W B gr gt nm sv rv go ct lv R) (i : Nat) (s : SS) (hi : i < R.S.length) :
    RnAt ((((W.setCell ⟨gt, i * 4, none⟩ (.int .i64 s.st)).setCell ⟨gt, i * 4 + 1, none⟩ (.int .i64 s.us)).setCell ⟨gt, i * 4 + 2, none⟩ (.int .i64 s.ca)).setCell ⟨gt, i * 4 + 3, none⟩ (.int .i64 s.da)) B gr gt nm sv rv go ct lv ⟨R.S.set i s, R.stat, R.log⟩ := by
  have hne := h.gr_ne
  have e1 : ∀ (V : World) (j : Nat) (v : Value) (k : Nat), k ≠ gt → (V.setCell ⟨gt, j, none⟩ v).heap[k]? = V.heap[k]? := fun V j v k hk => Below.heap_setCell _ _ _ _ hk
  refine ⟨?_, ?_, own_same h.lg fun k _ e => ?_⟩
  · rw [e1 _ _ _ _ hne.symm, e1 _ _ _ _ hne.symm, e1 _ _ _ _ hne.symm, e1 _ _ _ _ hne.symm, h.ob]
    simp
  · have o4 := own_setcell (own_setcell (own_setcell (own_setcell h.st (i * 4) (.int .i64 s.st)) (i * 4 + 1) (.int .i64 s.us)) (i * 4 + 2) (.int .i64 s.ca)) (i * 4 + 3) (.int .i64 s.da)
    have e : ((((cellsSS R.S).set (i * 4) (.int .i64 s.st)).set (i * 4 + 1) (.int .i64 s.us)).set (i * 4 + 2) (.int .i64 s.ca)).set (i * 4 + 3) (.int .i64 s.da) = cellsSS (R.S.set i s) := by
      have hl := four_len sscells sscells_len R.S
      refine four_set sscells sscells_len R.S i s _ (by simp [cellsSS, hl]) (fun j hj _ => ?_) (fun k hk => ?_)
      · have hlen : i * 4 + 4 ≤ (cellsSS R.S).length := by unfold cellsSS; rw [hl]; omega
        have hj' : j = 0 ∨ j = 1 ∨ j = 2 ∨ j = 3 := by omega
        rcases hj' with rfl | rfl | rfl | rfl <;> simp [List.getElem?_set, sscells] <;> omega
      · simp only [List.getElem?_set]
        rw [if_neg (by omega), if_neg (by omega), if_neg (by omega), if_neg (by omega)]
        rfl
    rw [e] at o4
    simpa using o4
  · have hk : k ≠ gt := fun e2 => kind_ne2 h.st h.lg (by decide) (g := gt) rfl (e.trans (congrArg some e2))
    rw [e1 _ _ _ _ hk, e1 _ _ _ _ hk, e1 _ _ _ _ hk, e1 _ _ _ _ hk]
/-- A step is completed. -/
theorem RnAt.setS2 (h : RnAt W B gr gt nm sv rv go ct lv R) (i : Nat) (s : SS) (hs : R.S[i]? = some s) (z d : Int) :
    RnAt ((W.setCell ⟨gt, i * 4, none⟩ (.int .i64 z)).setCell ⟨gt, i * 4 + 3, none⟩ (.int .i64 d)) B gr gt nm sv rv go ct lv ⟨R.S.set i ⟨z, s.us, s.ca, d⟩, R.stat, R.log⟩ := by
  have hi := (List.getElem?_eq_some_iff.1 hs).1
  have hne := h.gr_ne
  have e1 : ∀ (V : World) (j : Nat) (v : Value) (k : Nat), k ≠ gt → (V.setCell ⟨gt, j, none⟩ v).heap[k]? = V.heap[k]? := fun V j v k hk => Below.heap_setCell _ _ _ _ hk
  refine ⟨?_, ?_, own_same h.lg fun k _ e => ?_⟩
  · rw [e1 _ _ _ _ hne.symm, e1 _ _ _ _ hne.symm, h.ob]
    simp
  · have o4 := own_setcell (own_setcell h.st (i * 4) (.int .i64 z)) (i * 4 + 3) (.int .i64 d)
    have e : ((cellsSS R.S).set (i * 4) (.int .i64 z)).set (i * 4 + 3) (.int .i64 d) = cellsSS (R.S.set i ⟨z, s.us, s.ca, d⟩) := by
      have hl := four_len sscells sscells_len R.S
      refine four_set sscells sscells_len R.S i ⟨z, s.us, s.ca, d⟩ _ (by simp [cellsSS, hl]) (fun j hj _ => ?_) (fun k hk => ?_)
      · have hlen : i * 4 + 4 ≤ (cellsSS R.S).length := by unfold cellsSS; rw [hl]; omega
        have h1 := four_at sscells sscells_len R.S i 1 (by decide)
        have h2 := four_at sscells sscells_len R.S i 2 (by decide)
        rw [hs] at h1 h2
        have h1' : (cellsSS R.S)[i * 4 + 1]? = some (.int .i64 s.us) := h1
        have h2' : (cellsSS R.S)[i * 4 + 2]? = some (.int .i64 s.ca) := h2
        have hj' : j = 0 ∨ j = 1 ∨ j = 2 ∨ j = 3 := by omega
        rcases hj' with rfl | rfl | rfl | rfl
        · simp [List.getElem?_set, sscells]; omega
        · rw [List.getElem?_set, if_neg (by omega), List.getElem?_set, if_neg (by omega), h1']; rfl
        · rw [List.getElem?_set, if_neg (by omega), List.getElem?_set, if_neg (by omega), h2']; rfl
        · simp [List.getElem?_set, sscells]; omega
      · simp only [List.getElem?_set]
        rw [if_neg (by omega), if_neg (by omega)]
        rfl
    rw [e] at o4
    simpa using o4
  · have hk : k ≠ gt := fun e2 => kind_ne2 h.st h.lg (by decide) (g := gt) rfl (e.trans (congrArg some e2))
    rw [e1 _ _ _ _ hk, e1 _ _ _ _ hk]
theorem RnAt.frT (h : RnAt W B gr gt nm sv rv go ct lv R) (j : Nat) : W.frozen? ⟨gt, j, none⟩ = false := h.st.frozenAt j
end
end Go.Proofs.YtahfobbiaimoiaaGreatDoor
namespace Go.Proofs.YtahfobbiaimoiaaGreatDoor
open Go.RowKit
theorem keepQ {W0 W w1 : World} {b i : Nat} {u : Value} (h : W.cell? ⟨b, i, none⟩ = some u ∧ Below W0.heap.size W0 W) (hb : Below W.heap.size W w1) : w1.cell? ⟨b, i, none⟩ = some u ∧ Below W0.heap.size W0 w1 :=
  ⟨(hb.cell (p := ⟨b, i, none⟩) (cell_lt h.1)).trans h.1, h.2.trans (hb.mono h.2.size)⟩
section
variable {W : World} {B gr gt : Nat} {nm : ByteArray} {sv rv : Value} {go ct : Nat} {lv : Value} {R : Rs} {gp gs : Nat} {Pf Sf : Nat → Nat}
set_option maxRecDepth 100000 in
set_option maxHeartbeats 2000000 in
theorem readyF (h : RnAt W B gr gt nm sv rv go ct lv R) (ho : O.OrdAt W go gp gs R.S.length Pf Sf) (hn : R.S.length ≤ 64) (hP : ∀ a, a < R.S.length → Pf a < 18446744073709551616) (ht : O.Tab W) :
    Calls Tryz.prog 17 #[.pointer (some ⟨gr, 0, none⟩)] W fun e w' => e = .returned (.int .u64 (rdyR R.S.length Pf R : Nat)) ∧ Below W.heap.size W w' := by
  have c3 := h.c3
  have KE := hide' (endedF h)
  cases he : endd R with
  | true =>
    rw [he] at KE
    have hz : Hid (rdyR R.S.length Pf R = 0) := by show _ = _; unfold rdyR; rw [if_pos he]
    rw [hz.out]
    clear h ho hP ht he
    go_enter Tryz.func17, Tryz.ntmps17
    go_wp2_with (go_at_call 54; refine KE.out.mono ?_; rintro e w1 ⟨rfl, hw⟩; obtain rfl : W = w1 := hw.symm)
    go_ret
    exact ⟨rfl, Below.refl _ _⟩
  | false =>
    rw [he] at KE
    have hd := thz_lt R.S 2 (by omega)
    have hd0 := thz_lt R.S 0 (by omega)
    have KT : Hid (∀ k V, Below W.heap.size W V → Calls Tryz.prog 56 #[.pointer (some ⟨gr, 0, none⟩), .int .i64 k] V fun e w' => e = .returned (.int .u64 (thz R.S k : Int)) ∧ Below V.heap.size V w') := fun k V hV => thoseF (h.over hV) k (by omega)
    have KR : Hid (∀ V, Below W.heap.size W V → Calls Tryz.prog 55 #[.pointer (some ⟨go, 0, none⟩), .int .u64 (thz R.S 2 : Nat)] V fun e w' => e = .returned (.int .u64 (O.rdW R.S.length Pf (thz R.S 2) : Nat)) ∧ Below V.heap.size V w') := fun V hV => O.readyO (ho.over hV) hn hP _ hd (ht.over hV)
    have hrl : O.rdW R.S.length Pf (thz R.S 2) < 18446744073709551616 := O.orAll_lt fun k _ => O.rdF_lt _ _ _ k.isLt
    have hand := u64_and_nat (O.rdW R.S.length Pf (thz R.S 2)) (thz R.S 0) hrl hd0
    have hz : Hid (rdyR R.S.length Pf R = O.rdW R.S.length Pf (thz R.S 2) &&& thz R.S 0) := by show _ = _; unfold rdyR; rw [he]; rfl
    rw [hz.out]
    have hi0 : Hid (W.drew.cell? ⟨gr, 3, none⟩ = some (.pointer (some ⟨go, 0, none⟩)) ∧ Below W.heap.size W W.drew) := ⟨c3, (Below.refl _ _).drew⟩
    clear h ho hP ht he
    generalize hy : O.rdW R.S.length Pf (thz R.S 2) &&& thz R.S 0 = y at *
    have hy' := hide' hy
    clear hy
    generalize O.rdW R.S.length Pf (thz R.S 2) = x at *
    go_enter Tryz.func17, Tryz.ntmps17
    go_wp2_with (go_at_call 54; refine KE.out.mono ?_; rintro e w1 ⟨rfl, hw⟩; obtain rfl : W = w1 := hw.symm)
    go_region_held3 (fun V => V.cell? ⟨gr, 3, none⟩ = some (.pointer (some ⟨go, 0, none⟩)) ∧ Below W.heap.size W V) (first | (exact keepQ (by assumption) hb) | (exact keepQ hi0.out hb) | (exact hi0.out)) (first | (go_at_call 56; refine (KT.out _ _ (by first | exact ‹_ ∧ _›.2 | exact (Below.refl _ _).drew)).mono ?_; rintro e w2 ⟨rfl, hb⟩) | (go_at_call 55; refine (KR.out _ (by first | exact ‹_ ∧ _›.2 | exact (Below.refl _ _).drew)).mono ?_; rintro e w3 ⟨rfl, hb⟩))
    have hB := hide' (‹w2.cell? _ = _ ∧ Below W.heap.size W w2›).2
    clear KT KR hb hi0
    go_wp2
    go_ret
    exact ⟨rfl, hB.out⟩
end
end Go.Proofs.YtahfobbiaimoiaaGreatDoor
namespace Go.Proofs.YtahfobbiaimoiaaGreatDoor
open Go.RowKit
/-- The document's run at the block gd, its steps' states at gt. -/
structure RzAt (W : World) (B gd gt : Nat) (nm : ByteArray) (sv rv : Value) (go ct : Nat) (ev : Value) (S : List SS) (L : List Ev) (sk : Bool) (en : Int) : Prop where
  ob : W.heap[gd]? = some (.cells #[.string nm, sv, rv, .pointer (some ⟨go, 0, none⟩), .slice (some ⟨gt, 0, none⟩) S.length ct, ev, .bool sk, .int .i64 en] 40 (0, 0))
  st : W.ownsRow B 42 4 (.slice (some ⟨gt, 0, none⟩) S.length ct) S.length (cellsSS S)
  lg : W.ownsRow B 76 4 ev L.length (cellsEv L)
/-- What its two words say of a run's status. -/
def SkE (R : Rs) (sk : Bool) (en : Int) : Prop := (endd R = true ∧ en = R.stat) ∨ (endd R = false ∧ en = 0 ∧ R.stat = if sk then 2 else 1)
theorem SkE.en0 {R : Rs} {sk : Bool} {en : Int} (h : SkE R sk en) : endd R = decide (en ≠ 0) := by
  rcases h with ⟨h1, h2⟩ | ⟨h1, h2, _⟩
  · rw [h1, h2]
    unfold endd at h1
    simp at h1
    rcases h1 with e | e <;> rw [e] <;> rfl
  · rw [h1, h2]; rfl
theorem SkE.stk {R : Rs} {sk : Bool} {en : Int} (h : SkE R sk en) (he : endd R = false) : sk = decide (R.stat = 2) := by
  rcases h with ⟨h1, h2⟩ | ⟨h1, h2, h3⟩
  · rw [h1] at he; cases he
  · rw [h3]; cases sk <;> rfl
theorem SkE.stat {R : Rs} {sk : Bool} {en : Int} (h : SkE R sk en) : R.stat = if en ≠ 0 then en else if sk = true then 2 else 1 := by
  have h0 := h.en0
  rcases h with ⟨h1, h2⟩ | ⟨h1, h2, h3⟩
  · rw [h1] at h0
    have : en ≠ 0 := by simpa using h0.symm
    rw [if_pos this, h2]
  · rw [if_neg (by simp [h2]), h3]
section
variable {W W' : World} {B gd gt : Nat} {nm : ByteArray} {sv rv : Value} {go ct : Nat} {ev : Value} {S : List SS} {L : List Ev} {sk : Bool} {en : Int}
theorem RzAt.lt (h : RzAt W B gd gt nm sv rv go ct ev S L sk en) : gd < W.heap.size := (Array.getElem?_eq_some_iff.1 h.ob).1
theorem RzAt.gt_lt (h : RzAt W B gd gt nm sv rv go ct ev S L sk en) : gt < W.heap.size := own_lt' h.st rfl
theorem RzAt.gt_ge (h : RzAt W B gd gt nm sv rv go ct ev S L sk en) : B ≤ gt := own_ge' h.st rfl
theorem RzAt.kept (h : RzAt W B gd gt nm sv rv go ct ev S L sk en) (hk : ∀ k, k < W.heap.size → k = gd ∨ k = gt ∨ ev.ownBlock = some k → W'.heap[k]? = W.heap[k]?) : RzAt W' B gd gt nm sv rv go ct ev S L sk en :=
  ⟨(hk gd h.lt (.inl rfl)).trans h.ob, own_same h.st fun g hg e => hk g hg (.inr (.inl (by cases e; rfl))), own_same h.lg fun g hg e => hk g hg (.inr (.inr e))⟩
theorem RzAt.over (h : RzAt W B gd gt nm sv rv go ct ev S L sk en) (hb : Below W.heap.size W W') : RzAt W' B gd gt nm sv rv go ct ev S L sk en := h.kept fun k hk _ => hb.block k hk
theorem RzAt.cs (h : RzAt W B gd gt nm sv rv go ct ev S L sk en) : W.cell? ⟨gd, 3, none⟩ = some (.pointer (some ⟨go, 0, none⟩)) ∧ W.cell? ⟨gd, 4, none⟩ = some (.slice (some ⟨gt, 0, none⟩) S.length ct) ∧ W.cell? ⟨gd, 5, none⟩ = some ev ∧ W.cell? ⟨gd, 6, none⟩ = some (.bool sk) ∧ W.cell? ⟨gd, 7, none⟩ = some (.int .i64 en) := by
  refine ⟨?_, ?_, ?_, ?_, ?_⟩ <;> simp [World.cell?, h.ob]
theorem RzAt.cf (h : RzAt W B gd gt nm sv rv go ct ev S L sk en) : W.cell? ⟨gd, 0, none⟩ = some (.string nm) ∧ W.cell? ⟨gd, 1, none⟩ = some sv ∧ W.cell? ⟨gd, 2, none⟩ = some rv := by
  refine ⟨?_, ?_, ?_⟩ <;> simp [World.cell?, h.ob]
theorem RzAt.frO (h : RzAt W B gd gt nm sv rv go ct ev S L sk en) (j : Nat) : W.frozen? ⟨gd, j, none⟩ = false := by simp [World.frozen?, h.ob]
theorem RzAt.frT (h : RzAt W B gd gt nm sv rv go ct ev S L sk en) (j : Nat) : W.frozen? ⟨gt, j, none⟩ = false := h.st.frozenAt j
theorem RzAt.cap (h : RzAt W B gd gt nm sv rv go ct ev S L sk en) : S.length ≤ ct := by
  rcases h.st.2 with ⟨e, _⟩ | ⟨g, cap, cs, e, _, _, hc, _⟩
  · cases e
  · cases e; exact hc
theorem RzAt.at (h : RzAt W B gd gt nm sv rv go ct ev S L sk en) {i : Nat} {s : SS} (hs : S[i]? = some s) : W.cell? ⟨gt, i * 4, none⟩ = some (.int .i64 s.st) ∧ W.cell? ⟨gt, i * 4 + 1, none⟩ = some (.int .i64 s.us) ∧ W.cell? ⟨gt, i * 4 + 2, none⟩ = some (.int .i64 s.ca) ∧ W.cell? ⟨gt, i * 4 + 3, none⟩ = some (.int .i64 s.da) := by
  have hi := (List.getElem?_eq_some_iff.1 hs).1
  have a0 := h.st.cellAt (i * 4 + 0) (by omega)
  have a1 := h.st.cellAt (i * 4 + 1) (by omega)
  have a2 := h.st.cellAt (i * 4 + 2) (by omega)
  have a3 := h.st.cellAt (i * 4 + 3) (by omega)
  unfold cellsSS at a0 a1 a2 a3
  rw [four_at sscells sscells_len S i _ (by decide), hs] at a0 a1 a2 a3
  exact ⟨a0, a1, a2, a3⟩
theorem RzAt.gd_ne (h : RzAt W B gd gt nm sv rv go ct ev S L sk en) : gt ≠ gd := fun e => kind_ne h.st h.ob (by decide) (by rw [e]; rfl)
theorem RzAt.setW (h : RzAt W B gd gt nm sv rv go ct ev S L sk en) {cs : Array Value} {i : Nat} {v : Value} (hc : (#[.string nm, sv, rv, .pointer (some ⟨go, 0, none⟩), .slice (some ⟨gt, 0, none⟩) S.length ct, ev, .bool sk, .int .i64 en] : Array Value).setIfInBounds i v = cs) : (W.setCell ⟨gd, i, none⟩ v).heap[gd]? = some (.cells cs 40 (0, 0)) ∧ (W.setCell ⟨gd, i, none⟩ v).ownsRow B 42 4 (.slice (some ⟨gt, 0, none⟩) S.length ct) S.length (cellsSS S) ∧ (W.setCell ⟨gd, i, none⟩ v).ownsRow B 76 4 ev L.length (cellsEv L) :=
  ⟨hc ▸ heap_set_at _ h.ob, own_same h.st fun g _ e => Below.heap_setCell _ _ _ _ fun e2 => kind_ne h.st h.ob (by decide) (e.trans (congrArg some e2)), own_same h.lg fun g _ e => Below.heap_setCell _ _ _ _ fun e2 => kind_ne h.lg h.ob (by decide) (e.trans (congrArg some e2))⟩
theorem RzAt.setSk (h : RzAt W B gd gt nm sv rv go ct ev S L sk en) (b : Bool) : RzAt (W.setCell ⟨gd, 6, none⟩ (.bool b)) B gd gt nm sv rv go ct ev S L b en := by
  obtain ⟨h1, h2, h3⟩ := h.setW (i := 6) (v := .bool b) rfl
  exact ⟨h1, h2, h3⟩
theorem RzAt.setEn (h : RzAt W B gd gt nm sv rv go ct ev S L sk en) (z : Int) : RzAt (W.setCell ⟨gd, 7, none⟩ (.int .i64 z)) B gd gt nm sv rv go ct ev S L sk z := by
  obtain ⟨h1, h2, h3⟩ := h.setW (i := 7) (v := .int .i64 z) rfl
  exact ⟨h1, h2, h3⟩
/-- An event more. -/
theorem RzAt.push (h : RzAt W B gd gt nm sv rv go ct ev S L sk en) (e : Ev) {w2 : World} {g cap : Nat} (ho : w2.ownsRow B 76 4 (.slice (some ⟨g, 0, none⟩) (L.length + 1) cap) (L.length + 1) (cellsEv L ++ evcells e)) (hg : W.grownBy w2 ev.ownBlock) (hn : ev.ownBlock = some g ∨ W.heap.size ≤ g) :
    RzAt (w2.setCell ⟨gd, 5, none⟩ (.slice (some ⟨g, 0, none⟩) (L.length + 1) cap)) B gd gt nm sv rv go ct (.slice (some ⟨g, 0, none⟩) (L.length + 1) cap) S (L ++ [e]) sk en ∧ FrR gd gt ev W (w2.setCell ⟨gd, 5, none⟩ (.slice (some ⟨g, 0, none⟩) (L.length + 1) cap)) ∧ NwL W.heap.size ev (.slice (some ⟨g, 0, none⟩) (L.length + 1) cap) := by
  have k1 : w2.heap[gd]? = W.heap[gd]? := hg.block gd h.lt fun e2 => kind_ne h.lg h.ob (by decide) e2.symm
  have ob2 := k1.trans h.ob
  have st2 : w2.ownsRow B 42 4 (.slice (some ⟨gt, 0, none⟩) S.length ct) S.length (cellsSS S) := own_same h.st fun k hk e2 => hg.block k hk fun e3 => kind_ne2 h.st h.lg (by decide) e2 e3.symm
  refine ⟨⟨heap_set_at _ ob2, own_same st2 fun k _ e2 => Below.heap_setCell _ _ _ _ fun e3 => kind_ne st2 ob2 (by decide) (e2.trans (congrArg some e3)), ?_⟩, ?_, ?_⟩
  · have : w2.ownsRow B 76 4 (.slice (some ⟨g, 0, none⟩) (L.length + 1) cap) (L ++ [e]).length (cellsEv (L ++ [e])) := by
      rw [List.length_append]
      simpa [cellsEv] using ho
    exact own_same this fun k _ e2 => Below.heap_setCell _ _ _ _ fun e3 => kind_ne this ob2 (by decide) (e2.trans (congrArg some e3))
  · exact FrR.set ⟨hg.os, hg.tape, hg.output, hg.size, fun k hk _ _ h3 => hg.block k hk fun e2 => h3 e2.symm⟩ 5 _
  · intro k hk
    cases hk
    exact hn
/-- A step's state written. -/
theorem RzAt.setS4 (h : RzAt W B gd gt nm sv rv go ct ev S L sk en) (i : Nat) (s : SS) (hi : i < S.length) :
    RzAt ((((W.setCell ⟨gt, i * 4, none⟩ (.int .i64 s.st)).setCell ⟨gt, i * 4 + 1, none⟩ (.int .i64 s.us)).setCell ⟨gt, i * 4 + 2, none⟩ (.int .i64 s.ca)).setCell ⟨gt, i * 4 + 3, none⟩ (.int .i64 s.da)) B gd gt nm sv rv go ct ev (S.set i s) L sk en := by
  have hne := h.gd_ne
  have e1 : ∀ (V : World) (j : Nat) (v : Value) (k : Nat), k ≠ gt → (V.setCell ⟨gt, j, none⟩ v).heap[k]? = V.heap[k]? := fun V j v k hk => Below.heap_setCell _ _ _ _ hk
  refine ⟨?_, ?_, own_same h.lg fun k _ e => ?_⟩
  · rw [e1 _ _ _ _ hne.symm, e1 _ _ _ _ hne.symm, e1 _ _ _ _ hne.symm, e1 _ _ _ _ hne.symm, h.ob]
    simp
  · have o4 := own_setcell (own_setcell (own_setcell (own_setcell h.st (i * 4) (.int .i64 s.st)) (i * 4 + 1) (.int .i64 s.us)) (i * 4 + 2) (.int .i64 s.ca)) (i * 4 + 3) (.int .i64 s.da)
    have e : ((((cellsSS S).set (i * 4) (.int .i64 s.st)).set (i * 4 + 1) (.int .i64 s.us)).set (i * 4 + 2) (.int .i64 s.ca)).set (i * 4 + 3) (.int .i64 s.da) = cellsSS (S.set i s) := by
      have hl := four_len sscells sscells_len S
      refine four_set sscells sscells_len S i s _ (by simp [cellsSS, hl]) (fun j hj _ => ?_) (fun k hk => ?_)
      · have hlen : i * 4 + 4 ≤ (cellsSS S).length := by unfold cellsSS; rw [hl]; omega
        have hj' : j = 0 ∨ j = 1 ∨ j = 2 ∨ j = 3 := by omega
        rcases hj' with rfl | rfl | rfl | rfl <;> simp [List.getElem?_set, sscells] <;> omega
      · simp only [List.getElem?_set]
        rw [if_neg (by omega), if_neg (by omega), if_neg (by omega), if_neg (by omega)]
        rfl
    rw [e] at o4
    simpa using o4
  · have hk : k ≠ gt := fun e2 => kind_ne2 h.st h.lg (by decide) (g := gt) rfl (e.trans (congrArg some e2))
    rw [e1 _ _ _ _ hk, e1 _ _ _ _ hk, e1 _ _ _ _ hk, e1 _ _ _ _ hk]
/-- A step is completed. -/
theorem RzAt.setS2 (h : RzAt W B gd gt nm sv rv go ct ev S L sk en) (i : Nat) (s : SS) (hs : S[i]? = some s) (z d : Int) :
    RzAt ((W.setCell ⟨gt, i * 4, none⟩ (.int .i64 z)).setCell ⟨gt, i * 4 + 3, none⟩ (.int .i64 d)) B gd gt nm sv rv go ct ev (S.set i ⟨z, s.us, s.ca, d⟩) L sk en := by
  have hi := (List.getElem?_eq_some_iff.1 hs).1
  have hne := h.gd_ne
  have e1 : ∀ (V : World) (j : Nat) (v : Value) (k : Nat), k ≠ gt → (V.setCell ⟨gt, j, none⟩ v).heap[k]? = V.heap[k]? := fun V j v k hk => Below.heap_setCell _ _ _ _ hk
  refine ⟨?_, ?_, own_same h.lg fun k _ e => ?_⟩
  · rw [e1 _ _ _ _ hne.symm, e1 _ _ _ _ hne.symm, h.ob]
    simp
  · have o4 := own_setcell (own_setcell h.st (i * 4) (.int .i64 z)) (i * 4 + 3) (.int .i64 d)
    have e : ((cellsSS S).set (i * 4) (.int .i64 z)).set (i * 4 + 3) (.int .i64 d) = cellsSS (S.set i ⟨z, s.us, s.ca, d⟩) := by
      have hl := four_len sscells sscells_len S
      refine four_set sscells sscells_len S i ⟨z, s.us, s.ca, d⟩ _ (by simp [cellsSS, hl]) (fun j hj _ => ?_) (fun k hk => ?_)
      · have hlen : i * 4 + 4 ≤ (cellsSS S).length := by unfold cellsSS; rw [hl]; omega
        have h1 := four_at sscells sscells_len S i 1 (by decide)
        have h2 := four_at sscells sscells_len S i 2 (by decide)
        rw [hs] at h1 h2
        have h1' : (cellsSS S)[i * 4 + 1]? = some (.int .i64 s.us) := h1
        have h2' : (cellsSS S)[i * 4 + 2]? = some (.int .i64 s.ca) := h2
        have hj' : j = 0 ∨ j = 1 ∨ j = 2 ∨ j = 3 := by omega
        rcases hj' with rfl | rfl | rfl | rfl
        · simp [List.getElem?_set, sscells]; omega
        · rw [List.getElem?_set, if_neg (by omega), List.getElem?_set, if_neg (by omega), h1']; rfl
        · rw [List.getElem?_set, if_neg (by omega), List.getElem?_set, if_neg (by omega), h2']; rfl
        · simp [List.getElem?_set, sscells]; omega
      · simp only [List.getElem?_set]
        rw [if_neg (by omega), if_neg (by omega)]
        rfl
    rw [e] at o4
    simpa using o4
  · have hk : k ≠ gt := fun e2 => kind_ne2 h.st h.lg (by decide) (g := gt) rfl (e.trans (congrArg some e2))
    rw [e1 _ _ _ _ hk, e1 _ _ _ _ hk]
end
end Go.Proofs.YtahfobbiaimoiaaGreatDoor
namespace Go.Proofs.YtahfobbiaimoiaaGreatDoor
open Go.RowKit
theorem cellsEv_len (L : List Ev) : (cellsEv L).length = L.length * 4 := by
  induction L with
  | nil => rfl
  | cons e l ih =>
    have : cellsEv (e :: l) = evcells e ++ cellsEv l := rfl
    rw [this, List.length_append, ih, evcells_len, List.length_cons]
    omega
theorem eq_nilEv (w : World) : (binOp .eql 26 (.slice none 0 0) (.slice none 0 0)).run Tryz.prog w = .ok (.bool true) w := by kernel_rfl
theorem ne_nilEv (ad : Addr) (n cap : Nat) (w : World) : (binOp .eql 26 (.slice (some ad) n cap) (.slice none 0 0)).run Tryz.prog w = .ok (.bool false) w := by kernel_rfl
theorem evcells_one (L : List Ev) : ∀ u ∈ cellsEv L, u.oneCell' = true := by
  intro u hu
  unfold cellsEv at hu
  obtain ⟨p, hp, hs⟩ := List.mem_flatMap.1 hu
  simp [evcells] at hs
  rcases hs with rfl | rfl | rfl | rfl <;> rfl
set_option maxRecDepth 100000 in
set_option maxHeartbeats 1000000 in
theorem cloneEv (L : List Ev) (v : Value) (B : Nat) (w : World) (hr : w.ownsRow B 76 4 v L.length (cellsEv L)) (hL : L ≠ []) (hn : L.length ≤ 100000) :
    Calls Tryz.prog 58 #[v] w fun e w' => ∃ v', e = .returned v' ∧ w'.ownsRow w.heap.size 76 4 v' L.length (cellsEv L) ∧ Below w.heap.size w w' := by
  have hpos : L.length ≠ 0 := fun e => hL (List.eq_nil_of_length_eq_zero e)
  have hlen : (cellsEv L).length = L.length * 4 := cellsEv_len L
  have hone := evcells_one L
  obtain ⟨hz, h⟩ := hr
  rcases h with ⟨rfl, h0⟩ | ⟨g, cap, cs, rfl, hge, hh, hc, hm, hs, hcl⟩
  · exact absurd h0 (by omega)
  have hr : w.ownsRow B 76 4 (.slice (some ⟨g, 0, none⟩) L.length cap) L.length (cellsEv L) := ⟨hz, .inr ⟨g, cap, cs, rfl, hge, hh, hc, hm, hs, hcl⟩⟩
  have hcell : Hid (∀ j u, (cellsEv L)[j]? = some u → w.cell? ((⟨g, 0, none⟩ : Addr).add j) = some u) := fun j u hu => by
    have hj := (List.getElem?_eq_some_iff.1 hu).1
    have := hr.cellAt j (by omega)
    rw [hu] at this
    rw [Addr.add_lit, Nat.zero_add]
    exact this
  clear hh hc hm hs hcl hz hge hr
  obtain ⟨i0, z0, hi, hz0, hz1, hz2, hz3⟩ := elE.inf
  go_enter Tryz.func58, Tryz.ntmps58
  have hq := ne_nilEv ⟨g, 0, none⟩ L.length cap w
  have hnews : ∀ j u, (cellsEv L)[j]? = some u → (w.alloc (.cells #[] 76)).cell? ((⟨g, 0, none⟩ : Addr).add j) = some u := fun j u hu => by
    have h := hcell.out j u hu
    exact (((Below.refl w.heap.size w).alloc (Nat.le_refl _) _).cell (World.block_lt_of_cell? w _ h)).trans h
  have hz : (w.alloc (.cells #[] 76)).ownsRow w.heap.size 76 4 (.slice (some ⟨w.heap.size, 0, none⟩) 0 0) 0 (cellsEv []) := ⟨rfl, .inr ⟨_, 0, #[], rfl, Nat.le_refl _, heap_new w _, Nat.le_refl _, by unfold maxLen; omega, rfl, rfl⟩⟩
  go_wp2_with (at_builtin; refine wpList_append_own _ rfl _ _ 26 rfl w.heap.size 76 i0 z0 4 32 Tryz.underlying26 hi hz0 hz1 hz2 hz3 (by decide) (.slice (some ⟨w.heap.size, 0, none⟩) 0 0) 0 (cellsEv []) rfl hz ⟨g, 0, none⟩ L.length cap (cellsEv L) rfl hlen hnews hone (by unfold maxLen; omega) (by omega) (by simp) ?_; intro v1 w1 hown1 hgrow1 hnil)
  go_ret
  rw [Nat.zero_add] at hown1
  have hown : w1.ownsRow w.heap.size 76 4 v1 L.length (cellsEv L) := hown1
  exact ⟨_, rfl, hown, ((Below.refl _ w).alloc (Nat.le_refl _) _).grown hgrow1 (by simp) (fun j ej => by cases ej; exact Nat.le_refl _)⟩
section
variable {W : World} {B gr gt : Nat} {nm : ByteArray} {sv rv : Value} {go ct : Nat} {lv : Value} {R : Rs}
/-- A run's log is a copy. -/
theorem logF (h : RnAt W B gr gt nm sv rv go ct lv R) (hL : R.log ≠ []) (hn : R.log.length ≤ 100000) :
    Calls Tryz.prog 20 #[.pointer (some ⟨gr, 0, none⟩)] W fun e w' => ∃ v', e = .returned v' ∧ w'.ownsRow W.heap.size 76 4 v' R.log.length (cellsEv R.log) ∧ Below W.heap.size W w' := by
  have c6 := h.c6
  have KK := hide' (cloneEv R.log lv B W h.lg hL hn)
  obtain ⟨ol, cl, hlv⟩ := own_shp h.lg
  subst hlv
  clear hn hL
  go_enter Tryz.func20, Tryz.ntmps20
  go_wp2_with fail
  refine KK.out.mono ?_
  rintro e w1 ⟨v', rfl, ho, hb⟩
  obtain ⟨o2, c2, hv'⟩ := own_shp ho
  subst hv'
  have hF := hide' (show w1.ownsRow W.heap.size 76 4 (.slice o2 R.log.length c2) R.log.length (cellsEv R.log) ∧ Below W.heap.size W w1 from ⟨ho, hb⟩)
  clear KK ho hb h
  go_wp2
  go_ret
  exact ⟨_, rfl, hF.out⟩
end
end Go.Proofs.YtahfobbiaimoiaaGreatDoor

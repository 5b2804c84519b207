/- few, few2: bytes in new memory; same: the same problem. -/
import Derived.Test.YtfajgbdnfphajaaZpB2
import Derived.Test.YtfajgbdnfphajaaNRules
namespace Go.Proofs.Ytfajgbdnfphajaa.S
open Go.RowKit Go.Shelf
attribute [local irreducible] wpQuiet
/-- A row of bytes, with its room. -/
def RowC (w : World) (v : Value) (L : List Nat) : Prop := ∃ oa cap, v = .slice oa L.length cap ∧ (L.length ≤ cap ∧ (oa = none → cap = 0)) ∧ ∀ (i : Nat) (z : Nat), L[i]? = some z → ∃ g o, oa = some ⟨g, o, none⟩ ∧ w.cell? ⟨g, o + i, none⟩ = some (.int .u8 (z : Int))
theorem RowC.below {w w' : World} {v : Value} {L : List Nat} {n : Nat} (h : RowC w v L) (hb : Below n w w') (hn : w.heap.size ≤ n) : RowC w' v L := by
  obtain ⟨oa, cap, e, e0, h⟩ := h
  refine ⟨oa, cap, e, e0, fun i z hz => ?_⟩
  obtain ⟨g, o, e1, e2⟩ := h i z hz
  exact ⟨g, o, e1, (hb.cell (p := ⟨g, o + i, none⟩) (Nat.lt_of_lt_of_le (cell_lt e2) hn)).trans e2⟩
theorem RowC.of_owns {W : World} {B : Nat} {v : Value} {L : List Nat} (h : W.ownsRow B 5 1 v L.length (cellsB L)) : RowC W v L := by
  rcases h.2 with ⟨rfl, h0⟩ | ⟨g, cap, cur, rfl, _, _, hcap, _⟩
  · refine ⟨none, 0, by rw [h0], ⟨by omega, fun _ => rfl⟩, fun i z hz => ?_⟩
    have := (List.getElem?_eq_some_iff.1 hz).1
    omega
  · refine ⟨_, cap, rfl, ⟨hcap, fun e => by cases e⟩, fun i z hz => ⟨g, 0, rfl, ?_⟩⟩
    have hi := (List.getElem?_eq_some_iff.1 hz).1
    have := h.cellAt i (by omega)
    rw [Nat.zero_add, this]
    simp [cellsB, hz]
theorem RowC.rowB {w : World} {v : Value} {L : List Nat} (h : RowC w v L) : RowB w v L := by
  obtain ⟨oa, cap, e, _, hc⟩ := h
  exact ⟨oa, cap, e, hc⟩
set_option maxRecDepth 100000 in
set_option maxHeartbeats 1000000 in
theorem fewS (l : List Nat) (v : Value) (w : World) (hr : RowC w v l) :
    Calls Try.prog 6 #[v] w fun e w' => ∃ v', e = .returned v' ∧ w'.ownsRow w.heap.size 5 1 v' (l.take 2000).length (cellsB (l.take 2000)) ∧ Below w.heap.size w w' := by
  obtain ⟨oa, cap, rfl, hcap, hc⟩ := hr
  obtain ⟨i0, hi, hz0, hz1, hz2⟩ := info_parts infoU8
  have hc' := hide' hc
  clear hc
  go_enter Try.func6, Try.ntmps6
  by_cases hlong : 2000 < l.length
  · obtain ⟨ad, rfl⟩ : ∃ ad, oa = some ad := by
      cases oa with
      | none => have := hcap.2 rfl; omega
      | some ad => exact ⟨ad, rfl⟩
    obtain ⟨g, o, e, _⟩ := hc'.out 0 l[0] (List.getElem?_eq_getElem (by omega))
    cases e
    have hcap1 := hcap.1
    have hnews : ∀ j u, (cellsB (l.take 2000))[j]? = some u → w.cell? (Addr.add ⟨g, o, none⟩ j) = some u := fun j u hu => by
      obtain ⟨z, hz, rfl⟩ := cellsB_at hu
      obtain ⟨hj, _⟩ := List.getElem?_eq_some_iff.1 hz
      rw [List.length_take] at hj
      rw [List.getElem?_take_of_lt (by omega)] at hz
      obtain ⟨g', o', e, hcell⟩ := hc'.out j z hz
      cases e
      rw [Addr.add_lit]; exact hcell
    clear hcap
    go_wp2_with (at_builtin; refine wpList_append_own _ rfl _ _ 22 rfl w.heap.size 5 i0 (.int .u8 0) 1 1 Try.underlying22 hi hz0 hz1 hz2 rfl (by decide) _ 0 (cellsB []) rfl (owns_zero w _) ⟨g, o, none⟩ 2000 cap (cellsB (l.take 2000)) rfl (by simp [cellsB]; omega) (fun j u hu => cell_new (hnews j u hu)) (oneB _) (by unfold maxLen; omega) (by omega) (by simp) ?_; intro v1 w1 hown1 hgrow1 hnil)
    go_ret
    have hown : w1.ownsRow w.heap.size 5 1 v1 (0 + 2000) (cellsB (l.take 2000)) := hown1
    rw [show 0 + 2000 = (l.take 2000).length by rw [List.length_take]; omega] at hown
    exact ⟨_, rfl, hown, ((Below.refl _ w).alloc (Nat.le_refl _) _).grown hgrow1 (by simp) (fun j ej => by cases ej; exact Nat.le_refl _)⟩
  · have hle : l.length ≤ 2000 := by omega
    rw [List.take_of_length_le hle]
    cases oa with
    | none =>
      obtain ⟨h1, h2⟩ := hcap
      have := h2 rfl
      subst this
      have : l = [] := List.eq_nil_of_length_eq_zero (by omega)
      subst this
      go_wp2_with (at_builtin; refine wpList_append_own_none rfl _ _ 22 rfl w.heap.size 5 i0 1 Try.underlying22 hi _ 0 (cellsB []) rfl (owns_zero w _) rfl ?_)
      go_ret
      exact ⟨_, rfl, owns_zero w _, (Below.refl _ w).alloc (Nat.le_refl _) _⟩
    | some ad =>
      have hnews : ∀ j u, (cellsB l)[j]? = some u → w.cell? (ad.add j) = some u := fun j u hu => by
        obtain ⟨z, hz, rfl⟩ := cellsB_at hu
        obtain ⟨g, o, e, hcell⟩ := hc'.out j z hz
        cases e
        rw [Addr.add_lit]; exact hcell
      clear hcap
      go_wp2_with (at_builtin; refine wpList_append_own _ rfl _ _ 22 rfl w.heap.size 5 i0 (.int .u8 0) 1 1 Try.underlying22 hi hz0 hz1 hz2 rfl (by decide) _ 0 (cellsB []) rfl (owns_zero w _) ad l.length cap (cellsB l) rfl (by simp [cellsB]) (fun j u hu => cell_new (hnews j u hu)) (oneB _) (by unfold maxLen; omega) (by omega) (by simp) ?_; intro v1 w1 hown1 hgrow1 hnil)
      go_ret
      have hown : w1.ownsRow w.heap.size 5 1 v1 (0 + l.length) (cellsB l) := hown1
      rw [Nat.zero_add] at hown
      exact ⟨_, rfl, hown, ((Below.refl _ w).alloc (Nat.le_refl _) _).grown hgrow1 (by simp) (fun j ej => by cases ej; exact Nat.le_refl _)⟩
set_option maxRecDepth 100000 in
set_option maxHeartbeats 1000000 in
theorem few2S (l : List Nat) (v : Value) (w : World) (hr : RowC w v l) (hll : l.length ≤ 1000000) :
    Calls Try.prog 14 #[v] w fun e w' => ∃ v', e = .returned v' ∧ w'.ownsRow w.heap.size 5 1 v' l.length (cellsB l) ∧ Below w.heap.size w w' := by
  obtain ⟨oa, cap, rfl, hcap, hc⟩ := hr
  obtain ⟨i0, hi, hz0, hz1, hz2⟩ := info_parts infoU8
  have hc' := hide' hc
  clear hc
  go_enter Try.func14, Try.ntmps14
  cases oa with
  | none =>
    obtain ⟨h1, h2⟩ := hcap
    have := h2 rfl
    subst this
    have : l = [] := List.eq_nil_of_length_eq_zero (by omega)
    subst this
    go_wp2_with (at_builtin; refine wpList_append_own_none rfl _ _ 22 rfl w.heap.size 5 i0 1 Try.underlying22 hi _ 0 (cellsB []) rfl (owns_zero w _) rfl ?_)
    go_ret
    exact ⟨_, rfl, owns_zero w _, (Below.refl _ w).alloc (Nat.le_refl _) _⟩
  | some ad =>
    have hnews : ∀ j u, (cellsB l)[j]? = some u → w.cell? (ad.add j) = some u := fun j u hu => by
      obtain ⟨z, hz, rfl⟩ := cellsB_at hu
      obtain ⟨g, o, e, hcell⟩ := hc'.out j z hz
      cases e
      rw [Addr.add_lit]; exact hcell
    clear hcap
    go_wp2_with (at_builtin; refine wpList_append_own _ rfl _ _ 22 rfl w.heap.size 5 i0 (.int .u8 0) 1 1 Try.underlying22 hi hz0 hz1 hz2 rfl (by decide) _ 0 (cellsB []) rfl (owns_zero w _) ad l.length cap (cellsB l) rfl (by simp [cellsB]) (fun j u hu => cell_new (hnews j u hu)) (oneB _) (by unfold maxLen; omega) (by omega) (by simp) ?_; intro v1 w1 hown1 hgrow1 hnil)
    go_ret
    have hown : w1.ownsRow w.heap.size 5 1 v1 (0 + l.length) (cellsB l) := hown1
    rw [Nat.zero_add] at hown
    exact ⟨_, rfl, hown, ((Below.refl _ w).alloc (Nat.le_refl _) _).grown hgrow1 (by simp) (fun j ej => by cases ej; exact Nat.le_refl _)⟩
set_option maxRecDepth 100000 in
set_option maxHeartbeats 2000000 in
theorem keepRowsW (L : List Nat) (va vb : Value) (w : World) (ha : RowW w va L) (hb : RowW w vb L) (hl : L.length ≤ 1000000) :
    Calls Try.prog 22 #[va, vb] w fun e w' => e = .returned (.bool true) ∧ Below w.heap.size w w' := by
  obtain ⟨oa, ca, rfl, _, hca⟩ := ha
  obtain ⟨ob, cb, rfl, _, hcb⟩ := hb
  have hca' := hide' hca
  have hcb' := hide' hcb
  clear hca hcb
  go_enter Try.func22, Try.ntmps22
  go_wp2
  go_loopw [5] (fun p wr => ∃ j : Nat, j ≤ L.length ∧ p = .int .i64 (j : Int) ∧ Hid (Below w.heap.size w wr)) (fun p _ => ((L.length : Int) - intOf p).toNat)
  case atStart => exact ⟨0, Nat.zero_le _, rfl, Below.refl _ _⟩
  case round =>
    obtain ⟨j, hj, rfl, hB⟩ := hrel
    by_cases hlt : j < L.length
    · have hlt' : (j : Int) < (L.length : Int) := by omega
      obtain ⟨f, hf⟩ : ∃ f, L[j]? = some f := ⟨_, List.getElem?_eq_getElem hlt⟩
      obtain ⟨g, o, rfl, d1⟩ := hca'.out j f hf
      obtain ⟨g', o', rfl, e1⟩ := hcb'.out j f hf
      have d1' := M.cell_over d1 hB.out
      have e1' := M.cell_over e1 hB.out
      clear hf hca' hcb' d1 e1
      go_wp2
      go_quiet (fail)
      go_wp2
      exact ⟨⟨j + 1, by omega, by go_num, below_drewZ hB.out _⟩, by simp [intOf]; omega⟩
    · obtain rfl : j = L.length := by omega
      clear hca' hcb'
      go_wp2
      go_ret
      exact ⟨rfl, hB.out⟩
set_option maxRecDepth 100000 in
set_option maxHeartbeats 2000000 in
theorem same14 (P : Pb) (a1 a2 a3 b1 b2 b3 : Value) (w : World) (ha : PbV w P a1 a2 a3) (hb : PbV w P b1 b2 b3) (hk : Pok P) :
    Calls Try.prog 8 #[pbV P a1 a2 a3, pbV P b1 b2 b3] w fun e w' => e = .returned (.bool true) ∧ Below w.heap.size w w' := by
  have hA : Below w.heap.size w (w.alloc (.cells #[.int .i64 P.users, a1, a2, a3] 27)) := (Below.refl _ w).alloc (Nat.le_refl _) _
  have hB : Below (w.alloc (.cells #[.int .i64 P.users, a1, a2, a3] 27)).heap.size (w.alloc (.cells #[.int .i64 P.users, a1, a2, a3] 27)) ((w.alloc (.cells #[.int .i64 P.users, a1, a2, a3] 27)).alloc (.cells #[.int .i64 P.users, b1, b2, b3] 27)) := (Below.refl _ _).alloc (Nat.le_refl _) _
  have hz : (w.alloc (.cells #[.int .i64 P.users, a1, a2, a3] 27)).heap.size = w.heap.size + 1 := by simp
  have pA : PbB (w.alloc (.cells #[.int .i64 P.users, a1, a2, a3] 27)) w.heap.size P a1 a2 a3 := heap_new w _
  have pB : PbB ((w.alloc (.cells #[.int .i64 P.users, a1, a2, a3] 27)).alloc (.cells #[.int .i64 P.users, b1, b2, b3] 27)) (w.heap.size + 1) P b1 b2 b3 := by rw [← hz]; exact heap_new _ _
  have pA' := hide' (pA.below hB)
  have pB' := hide' pB
  have hW : Hid (Below w.heap.size w ((w.alloc (.cells #[.int .i64 P.users, a1, a2, a3] 27)).alloc (.cells #[.int .i64 P.users, b1, b2, b3] 27))) := hA.trans (hB.mono hA.size)
  have sa := ha.shape
  have sb := hb.shape
  have K1 : Hid (∀ V, Below w.heap.size w V → Calls Try.prog 22 #[a1, b1] V fun e w' => e = .returned (.bool true) ∧ Below V.heap.size V w') := fun V hV => keepRowsW P.who a1 b1 V (ha.below hV).who (hb.below hV).who (by have := hk.w; omega)
  have K2 : Hid (∀ V, Below w.heap.size w V → Calls Try.prog 9 #[a2, b2] V fun e w' => e = .returned (.bool true) ∧ Below V.heap.size V w') := fun V hV => by
    have := keepInts P.fixed P.fixed a2 b2 V (ha.below hV).fixed (hb.below hV).fixed (by have := hk.f; omega) (by have := hk.f; omega)
    simpa using this
  have K3 : Hid (∀ V, Below w.heap.size w V → Calls Try.prog 23 #[a3, b3] V fun e w' => e = .returned (.bool true) ∧ Below V.heap.size V w') := fun V hV => keepRules P.rules a3 b3 V (ha.below hV).rules (hb.below hV).rules hk.r hk.s
  obtain ⟨ow, cw, of, cf, or, cr, rfl, rfl, rfl⟩ := sa
  obtain ⟨ow', cw', of', cf', or', cr', rfl, rfl, rfl⟩ := sb
  unfold pbV
  clear ha hb hk hA hB pA pB hz
  go_enter Try.func8, Try.ntmps8
  go_wp2_with fail
  generalize (w.alloc (.cells #[.int .i64 P.users, .slice ow P.who.length cw, .slice of P.fixed.length cf, .slice or P.rules.length cr] 27)).alloc (.cells #[.int .i64 P.users, .slice ow' P.who.length cw', .slice of' P.fixed.length cf', .slice or' P.rules.length cr'] 27) = w1 at *
  refine (K1.out _ hW.out).mono ?_
  rintro e w2 ⟨rfl, hb2⟩
  have hW2 : Hid (Below w.heap.size w w2) := hW.out.trans (hb2.mono hW.out.size)
  have pA2 := hide' (pA'.out.below hb2)
  have pB2 := hide' (pB'.out.below hb2)
  clear hb2 pA' pB' hW K1
  have q2 := pA2.out.c2
  have r2 := pB2.out.c2
  go_wp2_with fail
  refine (K2.out _ hW2.out).mono ?_
  rintro e w3 ⟨rfl, hb3⟩
  have hW3 : Hid (Below w.heap.size w w3) := hW2.out.trans (hb3.mono hW2.out.size)
  have pA3 := hide' (pA2.out.below hb3)
  have pB3 := hide' (pB2.out.below hb3)
  clear hb3 pA2 pB2 hW2 K2 q2 r2
  have q3 := pA3.out.c3
  have r3 := pB3.out.c3
  go_wp2_with fail
  refine (K3.out _ hW3.out).mono ?_
  rintro e w4 ⟨rfl, hb4⟩
  have hW4 : Hid (Below w.heap.size w w4) := hW3.out.trans (hb4.mono hW3.out.size)
  clear hb4 pA3 pB3 hW3 K3 q3 r3
  go_wp2
  go_ret
  exact ⟨rfl, hW4.out⟩
end Go.Proofs.Ytfajgbdnfphajaa.S

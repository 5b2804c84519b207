/- Problems held against each other, whatever they are. -/
import Derived.Test.YtgmjmliemjgioaaDoorJ29
import Derived.Test.YtgmjmliemjgioaaDoorJ30
namespace Go.Proofs.YtgmjmliemjgioaaDoor.S
open Go.RowKit Go.Shelf
attribute [local irreducible] wpQuiet
/-- A row of bytes, with its room. -/
def RowC (w : World) (v : Value) (L : List Nat) : Prop := ∃ oa cap, v = .slice oa L.length cap ∧ (L.length ≤ cap ∧ (oa = none → cap = 0)) ∧ ∀ (i : Nat) (z : Nat), L[i]? = some z → ∃ g o, oa = some ⟨g, o, none⟩ ∧ w.cell? ⟨g, o + i, none⟩ = some (.int .u8 (z : Int))
theorem RowC.below {w w' : World} {v : Value} {L : List Nat} {n : Nat} (h : RowC w v L) (hb : Below n w w') (hn : w.heap.size ≤ n) : RowC w' v L := by
  obtain ⟨oa, cap, e, e0, h⟩ := h
  refine ⟨oa, cap, e, e0, fun i z hz => ?_⟩
  obtain ⟨g, o, e1, e2⟩ := h i z hz
  exact ⟨g, o, e1, (hb.cell (p := ⟨g, o + i, none⟩) (Nat.lt_of_lt_of_le (cell_lt e2) hn)).trans e2⟩
theorem RowC.of_owns {W : World} {B : Nat} {v : Value} {L : List Nat} (h : W.ownsRow B 5 1 v L.length (cellsB L)) : RowC W v L := by
  rcases h.2 with ⟨rfl, h0⟩ | ⟨g, cap, cur, rfl, _, _, hcap, _⟩
  · refine ⟨none, 0, by rw [h0], ⟨by omega, fun _ => rfl⟩, fun i z hz => ?_⟩
    have := (List.getElem?_eq_some_iff.1 hz).1
    omega
  · refine ⟨_, cap, rfl, ⟨hcap, fun e => by cases e⟩, fun i z hz => ⟨g, 0, rfl, ?_⟩⟩
    have hi := (List.getElem?_eq_some_iff.1 hz).1
    have := h.cellAt i (by omega)
    rw [Nat.zero_add, this]
    simp [cellsB, hz]
theorem RowC.rowB {w : World} {v : Value} {L : List Nat} (h : RowC w v L) : RowB w v L := by
  obtain ⟨oa, cap, e, _, hc⟩ := h
  exact ⟨oa, cap, e, hc⟩
set_option maxRecDepth 100000 in
set_option maxHeartbeats 1000000 in
theorem few2S (l : List Nat) (v : Value) (w : World) (hr : RowC w v l) (hll : l.length ≤ 1000000) :
    Calls Tryd.prog 14 #[v] w fun e w' => ∃ v', e = .returned v' ∧ w'.ownsRow w.heap.size 5 1 v' l.length (cellsB l) ∧ Below w.heap.size w w' := by
  obtain ⟨oa, cap, rfl, hcap, hc⟩ := hr
  obtain ⟨i0, hi, hz0, hz1, hz2⟩ := info_parts infoU8
  have hc' := hide' hc
  clear hc
  go_enter Tryd.func14, Tryd.ntmps14
  cases oa with
  | none =>
    obtain ⟨h1, h2⟩ := hcap
    have := h2 rfl
    subst this
    have : l = [] := List.eq_nil_of_length_eq_zero (by omega)
    subst this
    go_wp2_with (at_builtin; refine wpList_append_own_none rfl _ _ 39 rfl w.heap.size 5 i0 1 Tryd.underlying39 hi _ 0 (cellsB []) rfl (owns_zero w _) rfl ?_)
    go_ret
    exact ⟨_, rfl, owns_zero w _, (Below.refl _ w).alloc (Nat.le_refl _) _⟩
  | some ad =>
    have hnews : ∀ j u, (cellsB l)[j]? = some u → w.cell? (ad.add j) = some u := fun j u hu => by
      obtain ⟨z, hz, rfl⟩ := cellsB_at hu
      obtain ⟨g, o, e, hcell⟩ := hc'.out j z hz
      cases e
      rw [Addr.add_lit]; exact hcell
    clear hcap
    go_wp2_with (at_builtin; refine wpList_append_own _ rfl _ _ 39 rfl w.heap.size 5 i0 (.int .u8 0) 1 1 Tryd.underlying39 hi hz0 hz1 hz2 rfl (by decide) _ 0 (cellsB []) rfl (owns_zero w _) ad l.length cap (cellsB l) rfl (by simp [cellsB]) (fun j u hu => cell_new (hnews j u hu)) (oneB _) (by unfold maxLen; omega) (by omega) (by simp) ?_; intro v1 w1 hown1 hgrow1 hnil)
    go_ret
    have hown : w1.ownsRow w.heap.size 5 1 v1 (0 + l.length) (cellsB l) := hown1
    rw [Nat.zero_add] at hown
    exact ⟨_, rfl, hown, ((Below.refl _ w).alloc (Nat.le_refl _) _).grown hgrow1 (by simp) (fun j ej => by cases ej; exact Nat.le_refl _)⟩
set_option maxRecDepth 100000 in
set_option maxHeartbeats 2000000 in
theorem keepRowsW (L : List Nat) (va vb : Value) (w : World) (ha : RowW w va L) (hb : RowW w vb L) (hl : L.length ≤ 1000000) :
    Calls Tryd.prog 26 #[va, vb] w fun e w' => e = .returned (.bool true) ∧ Below w.heap.size w w' := by
  obtain ⟨oa, ca, rfl, _, hca⟩ := ha
  obtain ⟨ob, cb, rfl, _, hcb⟩ := hb
  have hca' := hide' hca
  have hcb' := hide' hcb
  clear hca hcb
  go_enter Tryd.func26, Tryd.ntmps26
  go_wp2
  go_loopw [5] (fun p wr => ∃ j : Nat, j ≤ L.length ∧ p = .int .i64 (j : Int) ∧ Hid (Below w.heap.size w wr)) (fun p _ => ((L.length : Int) - intOf p).toNat)
  case atStart => exact ⟨0, Nat.zero_le _, rfl, Below.refl _ _⟩
  case round =>
    obtain ⟨j, hj, rfl, hB⟩ := hrel
    by_cases hlt : j < L.length
    · have hlt' : (j : Int) < (L.length : Int) := by omega
      obtain ⟨f, hf⟩ : ∃ f, L[j]? = some f := ⟨_, List.getElem?_eq_getElem hlt⟩
      obtain ⟨g, o, rfl, d1⟩ := hca'.out j f hf
      obtain ⟨g', o', rfl, e1⟩ := hcb'.out j f hf
      have d1' := M.cell_over d1 hB.out
      have e1' := M.cell_over e1 hB.out
      clear hf hca' hcb' d1 e1
      go_wp2
      go_quiet (fail)
      go_wp2
      exact ⟨⟨j + 1, by omega, by go_num, below_drewZ hB.out _⟩, by simp [intOf]; omega⟩
    · obtain rfl : j = L.length := by omega
      clear hca' hcb'
      go_wp2
      go_ret
      exact ⟨rfl, hB.out⟩
set_option maxRecDepth 100000 in
set_option maxHeartbeats 2000000 in
theorem same14 (P : Pb) (a1 a2 a3 b1 b2 b3 : Value) (w : World) (ha : PbV w P a1 a2 a3) (hb : PbV w P b1 b2 b3) (hk : Pok P) :
    Calls Tryd.prog 15 #[pbV P a1 a2 a3, pbV P b1 b2 b3] w fun e w' => e = .returned (.bool true) ∧ Below w.heap.size w w' := by
  have hA : Below w.heap.size w (w.alloc (.cells #[.int .i64 P.users, a1, a2, a3] 26)) := (Below.refl _ w).alloc (Nat.le_refl _) _
  have hB : Below (w.alloc (.cells #[.int .i64 P.users, a1, a2, a3] 26)).heap.size (w.alloc (.cells #[.int .i64 P.users, a1, a2, a3] 26)) ((w.alloc (.cells #[.int .i64 P.users, a1, a2, a3] 26)).alloc (.cells #[.int .i64 P.users, b1, b2, b3] 26)) := (Below.refl _ _).alloc (Nat.le_refl _) _
  have hz : (w.alloc (.cells #[.int .i64 P.users, a1, a2, a3] 26)).heap.size = w.heap.size + 1 := by simp
  have pA : PbB (w.alloc (.cells #[.int .i64 P.users, a1, a2, a3] 26)) w.heap.size P a1 a2 a3 := heap_new w _
  have pB : PbB ((w.alloc (.cells #[.int .i64 P.users, a1, a2, a3] 26)).alloc (.cells #[.int .i64 P.users, b1, b2, b3] 26)) (w.heap.size + 1) P b1 b2 b3 := by rw [← hz]; exact heap_new _ _
  have pA' := hide' (pA.below hB)
  have pB' := hide' pB
  have hW : Hid (Below w.heap.size w ((w.alloc (.cells #[.int .i64 P.users, a1, a2, a3] 26)).alloc (.cells #[.int .i64 P.users, b1, b2, b3] 26))) := hA.trans (hB.mono hA.size)
  have sa := ha.shape
  have sb := hb.shape
  have K1 : Hid (∀ V, Below w.heap.size w V → Calls Tryd.prog 26 #[a1, b1] V fun e w' => e = .returned (.bool true) ∧ Below V.heap.size V w') := fun V hV => keepRowsW P.who a1 b1 V (ha.below hV).who (hb.below hV).who (by have := hk.w; omega)
  have K2 : Hid (∀ V, Below w.heap.size w V → Calls Tryd.prog 16 #[a2, b2] V fun e w' => e = .returned (.bool true) ∧ Below V.heap.size V w') := fun V hV => by
    have := keepInts P.fixed P.fixed a2 b2 V (ha.below hV).fixed (hb.below hV).fixed (by have := hk.f; omega) (by have := hk.f; omega)
    simpa using this
  have K3 : Hid (∀ V, Below w.heap.size w V → Calls Tryd.prog 27 #[a3, b3] V fun e w' => e = .returned (.bool true) ∧ Below V.heap.size V w') := fun V hV => keepRules P.rules a3 b3 V (ha.below hV).rules (hb.below hV).rules hk.r hk.s
  obtain ⟨ow, cw, of, cf, or, cr, rfl, rfl, rfl⟩ := sa
  obtain ⟨ow', cw', of', cf', or', cr', rfl, rfl, rfl⟩ := sb
  unfold pbV
  clear ha hb hk hA hB pA pB hz
  go_enter Tryd.func15, Tryd.ntmps15
  go_wp2_with fail
  generalize (w.alloc (.cells #[.int .i64 P.users, .slice ow P.who.length cw, .slice of P.fixed.length cf, .slice or P.rules.length cr] 26)).alloc (.cells #[.int .i64 P.users, .slice ow' P.who.length cw', .slice of' P.fixed.length cf', .slice or' P.rules.length cr'] 26) = w1 at *
  refine (K1.out _ hW.out).mono ?_
  rintro e w2 ⟨rfl, hb2⟩
  have hW2 : Hid (Below w.heap.size w w2) := hW.out.trans (hb2.mono hW.out.size)
  have pA2 := hide' (pA'.out.below hb2)
  have pB2 := hide' (pB'.out.below hb2)
  clear hb2 pA' pB' hW K1
  have q2 := pA2.out.c2
  have r2 := pB2.out.c2
  go_wp2_with fail
  refine (K2.out _ hW2.out).mono ?_
  rintro e w3 ⟨rfl, hb3⟩
  have hW3 : Hid (Below w.heap.size w w3) := hW2.out.trans (hb3.mono hW2.out.size)
  have pA3 := hide' (pA2.out.below hb3)
  have pB3 := hide' (pB2.out.below hb3)
  clear hb3 pA2 pB2 hW2 K2 q2 r2
  have q3 := pA3.out.c3
  have r3 := pB3.out.c3
  go_wp2_with fail
  refine (K3.out _ hW3.out).mono ?_
  rintro e w4 ⟨rfl, hb4⟩
  have hW4 : Hid (Below w.heap.size w w4) := hW3.out.trans (hb4.mono hW3.out.size)
  clear hb4 pA3 pB3 hW3 K3 q3 r3
  go_wp2
  go_ret
  exact ⟨rfl, hW4.out⟩
end Go.Proofs.YtgmjmliemjgioaaDoor.S
namespace Go.Proofs.YtgmjmliemjgioaaDoor.S
open Go.RowKit Go.Shelf
attribute [local irreducible] wpQuiet
set_option maxRecDepth 100000 in
set_option maxHeartbeats 2000000 in
theorem keepRowsG (la lb : List Nat) (va vb : Value) (w : World) (ha : RowW w va la) (hb : RowW w vb lb) (hn : la.length ≤ 1000000) (hm : lb.length ≤ 1000000) :
    Calls Tryd.prog 26 #[va, vb] w fun e w' => e = .returned (.bool (decide (la = lb))) ∧ Below w.heap.size w w' := by
  obtain ⟨oa, ca, rfl, _, hca⟩ := ha
  obtain ⟨ob, cb, rfl, _, hcb⟩ := hb
  by_cases hl : la.length = lb.length
  · have hca' := hide' hca
    have hcb' := hide' hcb
    clear hca hcb
    go_enter Tryd.func26, Tryd.ntmps26
    go_wp2
    go_loopw [5] (fun k wr => ∃ (c : Nat), c ≤ la.length ∧ k = .int .i64 c ∧ Hid (la.take c = lb.take c) ∧ Hid (Below w.heap.size w wr)) (fun k _ => ((la.length : Int) - intOf k).toNat)
    case atStart => exact ⟨0, Nat.zero_le _, rfl, by show _ = _; simp, Below.refl _ _⟩
    case round =>
      obtain ⟨c, hc, rfl, hE, hB⟩ := hrel
      by_cases hlt : c < la.length
      · obtain ⟨x, hx⟩ : ∃ x, la[c]? = some x := ⟨_, List.getElem?_eq_getElem hlt⟩
        obtain ⟨y, hy⟩ : ∃ y, lb[c]? = some y := ⟨_, List.getElem?_eq_getElem (by omega)⟩
        obtain ⟨ga, o1, rfl, c1'⟩ := hca'.out c x hx
        obtain ⟨gb, o2, rfl, c2'⟩ := hcb'.out c y hy
        have c1 := M.cell_over c1' hB.out
        have c2 := M.cell_over c2' hB.out
        clear c1' c2'
        have hx' := hide' hx
        have hy' := hide' hy
        have hltb : c < lb.length := by omega
        by_cases hxy : x = y
        · subst hxy
          clear hx hy hca' hcb'
          go_wp2
          go_quiet (fail)
          go_wp2
          exact ⟨⟨c + 1, by omega, by go_num, by show _ = _; rw [List.take_add_one, List.take_add_one, hE.out, hx'.out, hy'.out], below_drewZ hB.out _⟩, by simp [intOf]; omega⟩
        · have hd : ((x : Int) != (y : Int)) = true := by rw [bne_iff_ne]; omega
          have hd2 : (x : Int) ≠ (y : Int) := by omega
          clear hx hy hca' hcb'
          go_wp2
          go_quiet (fail)
          go_wp2
          go_ret
          exact ⟨ret_bool (by rw [eq_comm]; simp only [decide_eq_false_iff_not]; intro e; subst e; rw [hx'.out] at hy'; exact hxy (Option.some.inj hy'.out)), below_drewZ hB.out _⟩
      · obtain rfl : c = la.length := by omega
        have e : Hid (la = lb) := by
          show _ = _
          have := hE.out
          rwa [List.take_length, hl, List.take_length] at this
        clear hE hca' hcb'
        go_wp2
        go_ret
        exact ⟨ret_bool (by simp [e.out]), hB.out⟩
  · have hd : ((la.length : Int) != (lb.length : Int)) = true := by rw [bne_iff_ne]; omega
    have hd2 : (la.length : Int) ≠ (lb.length : Int) := by omega
    clear hca hcb
    go_enter Tryd.func26, Tryd.ntmps26
    go_wp2
    go_ret
    exact ⟨ret_bool (by rw [eq_comm]; simp only [decide_eq_false_iff_not]; intro e; exact hl (by rw [e])), Below.refl _ _⟩
end Go.Proofs.YtgmjmliemjgioaaDoor.S
namespace Go.Proofs.YtgmjmliemjgioaaDoor.S
open Go.RowKit Go.Shelf
def eqR (a b : Rl) : Bool := decide (a.kind = b.kind) && (decide (a.k = b.k) && decide (a.steps = b.steps))
theorem eqR_iff (a b : Rl) : eqR a b = true ↔ a = b := by
  unfold eqR
  simp only [Bool.and_eq_true, decide_eq_true_eq]
  constructor
  · intro ⟨h1, h2, h3⟩
    cases a
    cases b
    simp_all
  · intro h
    subst h
    exact ⟨rfl, rfl, rfl⟩
set_option maxRecDepth 100000 in
set_option maxHeartbeats 2000000 in
theorem keepRuleG (a b : Rl) (sa sb : Value) (w : World) (ha : RowI w sa a.steps) (hb : RowI w sb b.steps) (hm : a.steps.length ≤ 1000) (hn : b.steps.length ≤ 1000) :
    Calls Tryd.prog 45 #[rv a sa, rv b sb] w fun e w' => e = .returned (.bool (eqR a b)) ∧ Below w.heap.size w w' := by
  have KI : Hid (∀ W, Below w.heap.size w W → Calls Tryd.prog 16 #[sa, sb] W fun e w' => e = .returned (.bool (decide (a.steps = b.steps))) ∧ Below W.heap.size W w') := fun W hW => keepInts a.steps b.steps sa sb W (ha.below hW (Nat.le_refl _)) (hb.below hW (Nat.le_refl _)) (by omega) (by omega)
  have hB : Hid (Below w.heap.size w ((w.alloc (.cells #[.int .i64 a.kind, .int .i64 a.k, sa] 50)).alloc (.cells #[.int .i64 b.kind, .int .i64 b.k, sb] 50))) := ((Below.refl _ w).alloc (Nat.le_refl _) _).alloc (by simp) _
  unfold rv eqR
  clear ha hb hm hn
  generalize decide (a.steps = b.steps) = d3 at *
  generalize a.kind = ka at *
  generalize b.kind = kb at *
  generalize a.k = na at *
  generalize b.k = nb at *
  by_cases h1 : ka = kb
  · subst h1
    rw [decide_eq_true rfl, Bool.true_and]
    by_cases h2 : na = nb
    · subst h2
      rw [decide_eq_true rfl, Bool.true_and]
      go_enter Tryd.func45, Tryd.ntmps45
      go_wp2_with (first | (go_at_call 16; refine (KI.out _ hB.out).mono ?_; rintro e w1 ⟨rfl, hb1⟩))
      go_ret
      exact ⟨rfl, hB.out.trans (hb1.mono hB.out.size)⟩
    · rw [decide_eq_false h2, Bool.false_and]
      have h2b : (na == nb) = false := by rw [beq_eq_false_iff_ne]; exact h2
      clear KI
      go_enter Tryd.func45, Tryd.ntmps45
      go_wp2
      go_ret
      exact ⟨rfl, hB.out⟩
  · rw [decide_eq_false h1, Bool.false_and]
    have h1b : (ka == kb) = false := by rw [beq_eq_false_iff_ne]; exact h1
    clear KI
    go_enter Tryd.func45, Tryd.ntmps45
    go_wp2
    go_ret
    exact ⟨rfl, hB.out⟩
/-- What is told of two rows of rules. -/
def KrP (w : World) (A B : List Rl) (e : Ending) (w' : World) : Prop := ∃ d : Bool, e = .returned (.bool d) ∧ Hid (d = true ↔ A = B) ∧ Hid (Below w.heap.size w w')
set_option maxRecDepth 100000 in
set_option maxHeartbeats 4000000 in
theorem keepRulesG (A B : List Rl) (va vb : Value) (w : World) (ha : RowR w va A) (hb : RowR w vb B) (hl : A.length ≤ 1000) (_ : B.length ≤ 1000) (hm : ∀ r ∈ A, r.steps.length ≤ 1000) (hn : ∀ r ∈ B, r.steps.length ≤ 1000) :
    Calls Tryd.prog 27 #[va, vb] w (KrP w A B) := by
  obtain ⟨oa, ca, rfl, _, hca⟩ := ha
  obtain ⟨ob, cb, rfl, _, hcb⟩ := hb
  by_cases hlen : A.length = B.length
  case neg =>
    have hd : ((A.length : Int) != (B.length : Int)) = true := by rw [bne_iff_ne]; omega
    have hd2 : (A.length : Int) ≠ (B.length : Int) := by omega
    have hF : Hid (false = true ↔ A = B) := ⟨(fun e => by cases e), fun e => absurd (congrArg List.length e) hlen⟩
    clear hca hcb hm hn
    go_enter Tryd.func27, Tryd.ntmps27
    go_wp2
    go_ret
    exact ⟨false, rfl, hF, Below.refl _ _⟩
  have hca' := hide' hca
  have hcb' := hide' hcb
  have hm' := hide' hm
  have hn' := hide' hn
  have hlen' := hide' hlen
  clear hca hcb hm hn
  rw [← hlen]
  clear hlen
  go_enter Tryd.func27, Tryd.ntmps27
  go_wp2
  go_loopw [5] (fun k wr => ∃ c : Nat, c ≤ A.length ∧ k = .int .i64 c ∧ Hid (A.take c = B.take c) ∧ Hid (Below w.heap.size w wr)) (fun k _ => ((A.length : Int) - intOf k).toNat)
  case atStart => exact ⟨0, Nat.zero_le _, rfl, by show _ = _; simp, Below.refl _ _⟩
  case round =>
    obtain ⟨c, hcl, rfl, hE, hB⟩ := hrel
    by_cases hlt : c < A.length
    · obtain ⟨r, hx⟩ : ∃ r, A[c]? = some r := ⟨_, List.getElem?_eq_getElem hlt⟩
      obtain ⟨s, hy⟩ : ∃ r, B[c]? = some r := ⟨_, List.getElem?_eq_getElem (by have := hlen'.out; omega)⟩
      obtain ⟨g, o, sa, rfl, a0, a1, a2, ra⟩ := hca'.out c r hx
      obtain ⟨g', o', sb, rfl, b0, b1, b2, rb⟩ := hcb'.out c s hy
      have KR : Hid (∀ W, Below wr.heap.size wr W → Calls Tryd.prog 45 #[.agg #[.int .i64 r.kind, .int .i64 r.k, sa], .agg #[.int .i64 s.kind, .int .i64 s.k, sb]] W fun e w' => e = .returned (.bool (eqR r s)) ∧ Below W.heap.size W w') := fun W hW => keepRuleG r s sa sb W ((ra.below hB.out (Nat.le_refl _)).below hW (Nat.le_refl _)) ((rb.below hB.out (Nat.le_refl _)).below hW (Nat.le_refl _)) (hm'.out r (List.mem_of_getElem? hx)) (hn'.out s (List.mem_of_getElem? hy))
      have hC : Hid (∀ V, Below wr.heap.size wr V → V.cell? ⟨g, o + c * 3, none⟩ = some (.int .i64 r.kind) ∧ V.cell? ⟨g, o + c * 3 + 1, none⟩ = some (.int .i64 r.k) ∧ V.cell? ⟨g, o + c * 3 + 2, none⟩ = some sa ∧ V.cell? ⟨g', o' + c * 3, none⟩ = some (.int .i64 s.kind) ∧ V.cell? ⟨g', o' + c * 3 + 1, none⟩ = some (.int .i64 s.k) ∧ V.cell? ⟨g', o' + c * 3 + 2, none⟩ = some sb) := fun V hV => ⟨cell_ovN (cell_ovN a0 hB.out) hV, cell_ovN (cell_ovN a1 hB.out) hV, cell_ovN (cell_ovN a2 hB.out) hV, cell_ovN (cell_ovN b0 hB.out) hV, cell_ovN (cell_ovN b1 hB.out) hV, cell_ovN (cell_ovN b2 hB.out) hV⟩
      have hd : Hid (Below wr.heap.size wr wr.drew) := (Below.refl _ _).drew
      have hyes : Hid (eqR r s = true → A.take (c + 1) = B.take (c + 1)) := fun q => by rw [List.take_add_one, List.take_add_one, hE.out, hx, hy, (eqR_iff r s).1 q]
      have hno : Hid (eqR r s = false → (false = true ↔ A = B)) := fun q => ⟨(fun e => by cases e), fun e => by
        subst e
        rw [hx] at hy
        cases hy
        rw [(eqR_iff r r).2 rfl] at q
        cases q⟩
      obtain ⟨os, cs, rfl, _, _⟩ := ra
      obtain ⟨os', cs', rfl, _, _⟩ := rb
      clear hca' hcb' hx hy a0 a1 a2 b0 b1 b2 hm' hn' hE hlen'
      generalize eqR r s = dd at *
      generalize r.kind = kd at *
      generalize r.k = kk at *
      generalize r.steps.length = q at *
      generalize s.kind = kd' at *
      generalize s.k = kk' at *
      generalize s.steps.length = q' at *
      cases dd with
      | true =>
        have hE2 := hide' (hyes.out rfl)
        clear hyes hno
        go_wp2_with fail
        go_region_held3 (fun V => V.cell? ⟨g, o + c * 3, none⟩ = some (.int .i64 kd) ∧ V.cell? ⟨g, o + c * 3 + 1, none⟩ = some (.int .i64 kk) ∧ V.cell? ⟨g, o + c * 3 + 2, none⟩ = some (.slice os q cs) ∧ V.cell? ⟨g', o' + c * 3, none⟩ = some (.int .i64 kd') ∧ V.cell? ⟨g', o' + c * 3 + 1, none⟩ = some (.int .i64 kk') ∧ V.cell? ⟨g', o' + c * 3 + 2, none⟩ = some (.slice os' q' cs')) (first | (exact hC.out _ hd.out) | (exact hC.out _ h1.out)) (first | (go_at_call 45; refine (KR.out _ hd.out).mono ?_; rintro e w1 ⟨rfl, hb⟩; have h1 : Hid (Below wr.heap.size wr w1) := hd.out.trans hb; clear hb))
        all_goals
          go_wp2
          exact ⟨⟨c + 1, by omega, by go_num, hE2, hB.out.trans (h1.out.mono hB.out.size)⟩, by simp [intOf]; omega⟩
      | false =>
        have hF := hide' (hno.out rfl)
        clear hyes hno
        go_wp2_with fail
        go_region_held3 (fun V => V.cell? ⟨g, o + c * 3, none⟩ = some (.int .i64 kd) ∧ V.cell? ⟨g, o + c * 3 + 1, none⟩ = some (.int .i64 kk) ∧ V.cell? ⟨g, o + c * 3 + 2, none⟩ = some (.slice os q cs) ∧ V.cell? ⟨g', o' + c * 3, none⟩ = some (.int .i64 kd') ∧ V.cell? ⟨g', o' + c * 3 + 1, none⟩ = some (.int .i64 kk') ∧ V.cell? ⟨g', o' + c * 3 + 2, none⟩ = some (.slice os' q' cs')) (first | (exact hC.out _ hd.out) | (exact hC.out _ h1.out)) (first | (go_at_call 45; refine (KR.out _ hd.out).mono ?_; rintro e w1 ⟨rfl, hb⟩; have h1 : Hid (Below wr.heap.size wr w1) := hd.out.trans hb; clear hb))
        all_goals
          go_wp2
          go_ret
          exact ⟨false, rfl, hF, hB.out.trans (h1.out.mono hB.out.size)⟩
    · obtain rfl : c = A.length := by omega
      have hF : Hid (A = B) := by
        have := hE.out
        rwa [List.take_length, hlen'.out, List.take_length] at this
      clear hca' hcb' hE
      go_wp2
      go_ret
      exact ⟨true, rfl, ⟨fun _ => hF.out, fun _ => rfl⟩, hB⟩
end Go.Proofs.YtgmjmliemjgioaaDoor.S
namespace Go.Proofs.YtgmjmliemjgioaaDoor.S
open Go.RowKit Go.Shelf
theorem pb_ext {P Q : Pb} (h1 : P.users = Q.users) (h2 : P.who = Q.who) (h3 : P.fixed = Q.fixed) (h4 : P.rules = Q.rules) : P = Q := by
  cases P
  cases Q
  simp_all
def SmP (w : World) (P Q : Pb) (e : Ending) (w' : World) : Prop := ∃ d : Bool, e = .returned (.bool d) ∧ Hid (d = true ↔ P = Q) ∧ Hid (Below w.heap.size w w')
set_option maxRecDepth 100000 in
set_option maxHeartbeats 4000000 in
theorem sameG (P Q : Pb) (a1 a2 a3 b1 b2 b3 : Value) (w : World) (ha : PbV w P a1 a2 a3) (hb : PbV w Q b1 b2 b3) (hk : Pok P) (hq : Pok Q) :
    Calls Tryd.prog 15 #[pbV P a1 a2 a3, pbV Q b1 b2 b3] w (SmP w P Q) := by
  have hA : Below w.heap.size w (w.alloc (.cells #[.int .i64 P.users, a1, a2, a3] 26)) := (Below.refl _ w).alloc (Nat.le_refl _) _
  have hB : Below (w.alloc (.cells #[.int .i64 P.users, a1, a2, a3] 26)).heap.size (w.alloc (.cells #[.int .i64 P.users, a1, a2, a3] 26)) ((w.alloc (.cells #[.int .i64 P.users, a1, a2, a3] 26)).alloc (.cells #[.int .i64 Q.users, b1, b2, b3] 26)) := (Below.refl _ _).alloc (Nat.le_refl _) _
  have hz : (w.alloc (.cells #[.int .i64 P.users, a1, a2, a3] 26)).heap.size = w.heap.size + 1 := by simp
  have pA : PbB (w.alloc (.cells #[.int .i64 P.users, a1, a2, a3] 26)) w.heap.size P a1 a2 a3 := heap_new w _
  have pB : PbB ((w.alloc (.cells #[.int .i64 P.users, a1, a2, a3] 26)).alloc (.cells #[.int .i64 Q.users, b1, b2, b3] 26)) (w.heap.size + 1) Q b1 b2 b3 := by rw [← hz]; exact heap_new _ _
  have pA' := hide' (pA.below hB)
  have pB' := hide' pB
  have hW : Hid (Below w.heap.size w ((w.alloc (.cells #[.int .i64 P.users, a1, a2, a3] 26)).alloc (.cells #[.int .i64 Q.users, b1, b2, b3] 26))) := hA.trans (hB.mono hA.size)
  have sa := ha.shape
  have sb := hb.shape
  have K1 : Hid (∀ V, Below w.heap.size w V → Calls Tryd.prog 26 #[a1, b1] V fun e w' => e = .returned (.bool (decide (P.who = Q.who))) ∧ Below V.heap.size V w') := fun V hV => keepRowsG P.who Q.who a1 b1 V (ha.below hV).who (hb.below hV).who (by have := hk.w; omega) (by have := hq.w; omega)
  have K2 : Hid (∀ V, Below w.heap.size w V → Calls Tryd.prog 16 #[a2, b2] V fun e w' => e = .returned (.bool (decide (P.fixed = Q.fixed))) ∧ Below V.heap.size V w') := fun V hV => keepInts P.fixed Q.fixed a2 b2 V (ha.below hV).fixed (hb.below hV).fixed (by have := hk.f; omega) (by have := hq.f; omega)
  have K3 : Hid (∀ V, Below w.heap.size w V → Calls Tryd.prog 27 #[a3, b3] V (KrP V P.rules Q.rules)) := fun V hV => keepRulesG P.rules Q.rules a3 b3 V (ha.below hV).rules (hb.below hV).rules hk.r hq.r hk.s hq.s
  obtain ⟨ow, cw, of, cf, or, cr, rfl, rfl, rfl⟩ := sa
  obtain ⟨ow', cw', of', cf', or', cr', rfl, rfl, rfl⟩ := sb
  unfold pbV
  clear ha hb hk hq hA hB pA pB hz
  by_cases hu : P.users = Q.users
  case neg =>
    have hF : Hid (¬ P = Q) := fun e => hu (by rw [e])
    have hub : (P.users == Q.users) = false := by rw [beq_eq_false_iff_ne]; exact hu
    clear K1 K2 K3 pA' pB'
    go_enter Tryd.func15, Tryd.ntmps15
    go_wp2
    go_ret
    exact ⟨false, rfl, ⟨(fun e => by cases e), fun e => absurd e hF.out⟩, hW⟩
  have huu : (P.users == Q.users) = true := by rw [beq_iff_eq]; exact hu
  have hu' := hide' hu
  clear hu
  by_cases hw : P.who = Q.who
  case neg =>
    have hF : Hid (¬ P = Q) := fun e => hw (by rw [e])
    rw [decide_eq_false hw] at K1
    clear K2 K3 pA' pB' hu' hw
    go_enter Tryd.func15, Tryd.ntmps15
    go_wp2_with fail
    refine (K1.out _ hW.out).mono ?_
    rintro e w2 ⟨rfl, hb2⟩
    have hW2 : Hid (Below w.heap.size w w2) := hW.out.trans (hb2.mono hW.out.size)
    clear hb2 hW K1
    go_wp2
    go_ret
    exact ⟨false, rfl, ⟨(fun e => by cases e), fun e => absurd e hF.out⟩, hW2⟩
  rw [decide_eq_true hw] at K1
  have hw' := hide' hw
  clear hw
  by_cases hf : P.fixed = Q.fixed
  case neg =>
    have hF : Hid (¬ P = Q) := fun e => hf (by rw [e])
    rw [decide_eq_false hf] at K2
    clear K3 hu' hf hw'
    go_enter Tryd.func15, Tryd.ntmps15
    go_wp2_with fail
    refine (K1.out _ hW.out).mono ?_
    rintro e w2 ⟨rfl, hb2⟩
    have hW2 : Hid (Below w.heap.size w w2) := hW.out.trans (hb2.mono hW.out.size)
    have pA2 := hide' (pA'.out.below hb2)
    have pB2 := hide' (pB'.out.below hb2)
    clear hb2 pA' pB' hW K1
    have q2 := pA2.out.c2
    have r2 := pB2.out.c2
    go_wp2_with fail
    refine (K2.out _ hW2.out).mono ?_
    rintro e w3 ⟨rfl, hb3⟩
    have hW3 : Hid (Below w.heap.size w w3) := hW2.out.trans (hb3.mono hW2.out.size)
    clear hb3 pA2 pB2 hW2 K2 q2 r2
    go_wp2
    go_ret
    exact ⟨false, rfl, ⟨(fun e => by cases e), fun e => absurd e hF.out⟩, hW3⟩
  rw [decide_eq_true hf] at K2
  have hf' := hide' hf
  have hF : Hid (P.rules = Q.rules ↔ P = Q) := ⟨fun e => pb_ext hu'.out hw'.out hf'.out e, fun e => by rw [e]⟩
  clear hf hu' hw' hf'
  go_enter Tryd.func15, Tryd.ntmps15
  go_wp2_with fail
  refine (K1.out _ hW.out).mono ?_
  rintro e w2 ⟨rfl, hb2⟩
  have hW2 : Hid (Below w.heap.size w w2) := hW.out.trans (hb2.mono hW.out.size)
  have pA2 := hide' (pA'.out.below hb2)
  have pB2 := hide' (pB'.out.below hb2)
  clear hb2 pA' pB' hW K1
  have q2 := pA2.out.c2
  have r2 := pB2.out.c2
  go_wp2_with fail
  refine (K2.out _ hW2.out).mono ?_
  rintro e w3 ⟨rfl, hb3⟩
  have hW3 : Hid (Below w.heap.size w w3) := hW2.out.trans (hb3.mono hW2.out.size)
  have pA3 := hide' (pA2.out.below hb3)
  have pB3 := hide' (pB2.out.below hb3)
  clear hb3 pA2 pB2 hW2 K2 q2 r2
  have q3 := pA3.out.c3
  have r3 := pB3.out.c3
  go_wp2_with fail
  refine (K3.out _ hW3.out).mono ?_
  rintro e w4 ⟨d, rfl, hd, hb4⟩
  have hW4 : Hid (Below w.heap.size w w4) := hW3.out.trans (hb4.out.mono hW3.out.size)
  clear hb4 pA3 pB3 hW3 K3 q3 r3
  go_wp2
  go_ret
  exact ⟨d, rfl, hd.out.trans hF.out, hW4⟩
end Go.Proofs.YtgmjmliemjgioaaDoor.S

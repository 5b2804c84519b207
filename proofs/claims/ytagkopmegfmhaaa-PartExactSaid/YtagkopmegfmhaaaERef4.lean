/- The document's Finer, Meet, Merge. -/
import Derived.Test.YtagkopmegfmhaaaEAt
import Derived.Test.YtagkopmegfmhaaaEOf
import Derived.Deep.QuietTactic
import Derived.BigQuiet
namespace Go.Proofs.Ytagkopmegfmhaaa
open Go.RowKit
theorem below_drewE {n : Nat} {w w' : World} (h : Below n w w') : ∀ k, Below n w (w'.drewN k) := by
  intro k
  induction k with
  | zero => exact h
  | succ k ih => exact ih.drew
/-- Pairs of places that were looked at. -/
def PF (a b : List Nat) (c d : Nat) : Prop := (∀ i k, i < c → k < i → a[i]? = a[k]? → b[i]? = b[k]?) ∧ ∀ k, k < d → a[c]? = a[k]? → b[c]? = b[k]?
theorem PF.all {a b : List Nat} (h : PF a b a.length 0) : Finr a b := fun i j hi hj e => by
  rcases Nat.lt_trichotomy i j with h1 | h1 | h1
  · exact (h.1 j i hj h1 e.symm).symm
  · rw [h1]
  · exact h.1 i j hi h1 e
theorem PF.next {a b : List Nat} {c : Nat} (h : PF a b c c) : PF a b (c + 1) 0 := ⟨fun i k hi hk => by
  by_cases e : i = c
  · subst e; exact h.2 k hk
  · exact h.1 i k (by omega) hk, fun k hk => by omega⟩
theorem PF.step {a b : List Nat} {c d : Nat} (h : PF a b c d) (hd : a[c]? = a[d]? → b[c]? = b[d]?) : PF a b c (d + 1) := ⟨h.1, fun k hk => by
  by_cases e : k = d
  · subst e; exact hd
  · exact h.2 k (by omega)⟩
set_option maxRecDepth 100000 in
set_option maxHeartbeats 2000000 in
theorem refFiner (n : Nat) (a b : List Nat) (va vb : Value) (w : World) (ra : RowI w va (ints a)) (rb : RowI w vb (ints b)) (hla : a.length = n) (hlb : b.length = n) (hn : n ≤ 25) (ha : Leg 0 a) (hb : Leg 0 b) (q : Bool) (hq : q = true ↔ Finr a b) :
    Calls Try.prog 35 #[va, vb] w fun e w' => e = .returned (.bool q) ∧ Below w.heap.size w w' := by
  have KA := hide' (refAlike (ints a) (ints b) va vb w ra rb (by rw [ints_len]; omega) (by rw [ints_len]; omega))
  rw [show Ak (ints a) (ints b) = true by unfold Ak; rw [Lg.ints ha (by omega), Lg.ints hb (by omega), ints_len, ints_len, decide_eq_true (by omega)]; rfl] at KA
  obtain ⟨oa, ca, rfl, _, hca⟩ := ra
  obtain ⟨ob, cb, rfl, _, hcb⟩ := rb
  rw [ints_len, hla, ints_len, hlb] at KA ⊢
  have hca' := hide' hca
  have hcb' := hide' hcb
  have hla' := hide' hla
  have hlb' := hide' hlb
  have hq' := hide' hq
  clear hca hcb hla hlb hq
  go_enter Try.func35, Try.ntmps35
  go_wp2_with (first | (go_at_call 37; refine KA.out.mono ?_; rintro e w1 ⟨rfl, hw1⟩; obtain rfl : w = w1 := hw1.symm))
  clear KA
  go_loopw [5, 6] (fun k _ wr => ∃ c : Nat, c ≤ n ∧ k = .int .i64 c ∧ Hid (PF a b c 0) ∧ Hid (Below w.heap.size w wr)) (fun k _ _ => ((n : Int) - intOf k).toNat)
  case atStart => exact ⟨0, Nat.zero_le _, rfl, ⟨fun i k hi => by omega, fun k hk => by omega⟩, Below.refl _ _⟩
  case round =>
    obtain ⟨c, hc, rfl, hP, hB⟩ := hrel
    by_cases hlt : c < n
    · go_wp2
      go_loopw [6] (fun k wr => ∃ d : Nat, d ≤ c ∧ k = .int .i64 d ∧ Hid (PF a b c d) ∧ Hid (Below w.heap.size w wr)) (fun k _ => ((c : Int) - intOf k).toNat)
      case atStart => exact ⟨0, Nat.zero_le _, rfl, hP, hB⟩
      case round =>
        clear hP hB
        obtain ⟨d, hd, rfl, hP, hB⟩ := hrel
        by_cases hld : d < c
        · obtain ⟨x, hx⟩ : ∃ x, a[c]? = some x := ⟨_, List.getElem?_eq_getElem (by have := hla'.out; omega)⟩
          obtain ⟨y, hy⟩ : ∃ x, a[d]? = some x := ⟨_, List.getElem?_eq_getElem (by have := hla'.out; omega)⟩
          obtain ⟨s, hs⟩ : ∃ x, b[c]? = some x := ⟨_, List.getElem?_eq_getElem (by have := hlb'.out; omega)⟩
          obtain ⟨t, ht⟩ : ∃ x, b[d]? = some x := ⟨_, List.getElem?_eq_getElem (by have := hlb'.out; omega)⟩
          obtain ⟨g, o, rfl, x0⟩ := hca'.out c x (ints_at hx)
          obtain ⟨_, _, e, y0⟩ := hca'.out d y (ints_at hy)
          cases e
          obtain ⟨g2, o2, rfl, s0⟩ := hcb'.out c s (ints_at hs)
          obtain ⟨_, _, e, t0⟩ := hcb'.out d t (ints_at ht)
          cases e
          have x1 := (hB.out.cell (p := ⟨g, o + c, none⟩) (cell_lt x0)).trans x0
          have y1 := (hB.out.cell (p := ⟨g, o + d, none⟩) (cell_lt y0)).trans y0
          have s1 := (hB.out.cell (p := ⟨g2, o2 + c, none⟩) (cell_lt s0)).trans s0
          have t1 := (hB.out.cell (p := ⟨g2, o2 + d, none⟩) (cell_lt t0)).trans t0
          clear x0 y0 s0 t0
          have hdn : d < n := by omega
          by_cases hxy : x = y
          · have hxyb : ((x : Int) == (y : Int)) = true := by simp; omega
            by_cases hst : s = t
            · have hstb : ((s : Int) != (t : Int)) = false := by simp; omega
              have hP2 := hide' (hP.out.step (d := d) (fun _ => by rw [hs, ht, hst]))
              clear hx hy hs ht hxy hst hP
              go_wp2
              go_quiet (fail)
              go_wp2
              exact ⟨⟨d + 1, by omega, by go_num, hP2, hide' (below_drewE hB.out _)⟩, by simp [intOf]; omega⟩
            · have hstb : ((s : Int) != (t : Int)) = true := by simp; omega
              have hF : Hid (q = false) := by
                show _ = _
                cases hqq : q with
                | false => rfl
                | true =>
                  have := hq'.out.1 hqq c d (by have := hla'.out; omega) (by have := hla'.out; omega) (by rw [hx, hy, hxy])
                  rw [hs, ht] at this
                  exact absurd (Option.some.inj this) hst
              clear hx hy hs ht hxy hst hP
              go_wp2
              go_quiet (fail)
              go_wp2
              go_ret
              exact ⟨ret_bool hF.out.symm, below_drewE hB.out _⟩
          · have hxyb : ((x : Int) == (y : Int)) = false := by simp; omega
            have hP2 := hide' (hP.out.step (d := d) (fun e => by rw [hx, hy] at e; exact absurd (Option.some.inj e) hxy))
            clear hx hy hs ht hxy hP
            go_wp2
            go_quiet (fail)
            go_wp2
            exact ⟨⟨d + 1, by omega, by go_num, hP2, hide' (below_drewE hB.out _)⟩, by simp [intOf]; omega⟩
        · obtain rfl : d = c := by omega
          have hP2 := hide' hP.out.next
          clear hP
          go_wp2
          exact ⟨⟨d + 1, by omega, by go_num, hP2, hB⟩, by simp [intOf]; omega⟩
    · obtain rfl : c = n := by omega
      have hT : Hid (q = true) := hq'.out.2 (PF.all (by rw [hla'.out]; exact hP.out))
      clear hP
      go_wp2
      go_ret
      exact ⟨ret_bool hT.out.symm, hB.out⟩
set_option maxRecDepth 100000 in
set_option maxHeartbeats 400000 in
theorem refFinerB (a b : List Int) (va vb : Value) (w : World) (ra : RowI w va a) (rb : RowI w vb b) (hna : a.length ≤ 1000) (hnb : b.length ≤ 1000) (hb : Ak a b = false) :
    Calls Try.prog 35 #[va, vb] w fun e w' => e = .returned (.bool false) ∧ w' = w := by
  have KA := hide' (refAlike a b va vb w ra rb hna hnb)
  rw [hb] at KA
  obtain ⟨oa, ca, rfl, _, _⟩ := ra
  obtain ⟨ob, cb, rfl, _, _⟩ := rb
  go_enter Try.func35, Try.ntmps35
  go_wp2_with (first | (go_at_call 37; refine KA.out.mono ?_; rintro e w1 ⟨rfl, rfl⟩))
  go_ret
  exact ⟨rfl, rfl⟩
/-- The document's labels of pairs. -/
def pairs26 (a b : List Nat) : List Int := List.zipWith (fun x y => ((x * 26 + y : Nat) : Int)) a b
theorem pairs26_len {a b : List Nat} (h : a.length = b.length) : (pairs26 a b).length = a.length := by simp [pairs26, h]
theorem pairs26_at {a b : List Nat} {i x y : Nat} (hx : a[i]? = some x) (hy : b[i]? = some y) : (pairs26 a b)[i]? = some ((x * 26 + y : Nat) : Int) := by
  simp [pairs26, List.getElem?_zipWith, hx, hy]
theorem pat_same {l m : List Int} (hl : l.length = m.length) (h : ∀ (i j : Nat) (y z y' z' : Int), l[i]? = some y → l[j]? = some z → m[i]? = some y' → m[j]? = some z' → (y = z ↔ y' = z')) : pat l = pat m := by
  refine leg_uniq (leg_pat0 l) (leg_pat0 m) (by rw [pat_len, pat_len, hl]) fun i j hi hj => ?_
  rw [pat_len] at hi hj
  obtain ⟨y, hy⟩ : ∃ x, l[i]? = some x := ⟨_, List.getElem?_eq_getElem hi⟩
  obtain ⟨z, hz⟩ : ∃ x, l[j]? = some x := ⟨_, List.getElem?_eq_getElem hj⟩
  obtain ⟨y', hy'⟩ : ∃ x, m[i]? = some x := ⟨_, List.getElem?_eq_getElem (by omega)⟩
  obtain ⟨z', hz'⟩ : ∃ x, m[j]? = some x := ⟨_, List.getElem?_eq_getElem (by omega)⟩
  rw [pat_ker hy hz, pat_ker hy' hz']
  exact h i j y z y' z' hy hz hy' hz'
theorem pat26 {a b : List Nat} (hb : Leg 0 b) (hl : a.length = b.length) (hn : b.length ≤ 25) : pat (pairs26 a b) = pat (pairs a b) := by
  refine pat_same (by rw [pairs26_len hl, pairs_len hl]) fun i j y z y' z' hy hz hy' hz' => ?_
  have hi := (List.getElem?_eq_some_iff.1 hy).1
  have hj := (List.getElem?_eq_some_iff.1 hz).1
  rw [pairs26_len hl] at hi hj
  obtain ⟨p, hp⟩ : ∃ x, a[i]? = some x := ⟨_, List.getElem?_eq_getElem hi⟩
  obtain ⟨p', hp'⟩ : ∃ x, a[j]? = some x := ⟨_, List.getElem?_eq_getElem hj⟩
  obtain ⟨r, hr⟩ : ∃ x, b[i]? = some x := ⟨_, List.getElem?_eq_getElem (by omega)⟩
  obtain ⟨r', hr'⟩ : ∃ x, b[j]? = some x := ⟨_, List.getElem?_eq_getElem (by omega)⟩
  have s1 := leg_small hb hn hr
  have s2 := leg_small hb hn hr'
  rw [pairs26_at hp hr] at hy
  rw [pairs26_at hp' hr'] at hz
  rw [pairs_at hp hr] at hy'
  rw [pairs_at hp' hr'] at hz'
  cases hy; cases hz; cases hy'; cases hz'
  omega
theorem takeI_snoc {L : List Int} {c : Nat} {z : Int} (h : L[c]? = some z) : cellsI (L.take (c + 1)) = cellsI (L.take c) ++ [.int .i64 z] := by
  rw [List.take_add_one, h]; simp [cellsI]
set_option maxRecDepth 100000 in
set_option maxHeartbeats 2000000 in
theorem refMeet (n : Nat) (a b : List Nat) (va vb : Value) (w : World) (ra : RowI w va (ints a)) (rb : RowI w vb (ints b)) (hla : a.length = n) (hlb : b.length = n) (hn : n ≤ 25) (ha : Leg 0 a) (hb : Leg 0 b) :
    Calls Try.prog 38 #[va, vb] w fun e w' => ∃ g, e = .returned (.slice (some ⟨g, 0, none⟩) n n) ∧ Hid (RowI w' (.slice (some ⟨g, 0, none⟩) n n) (ints (pat (pairs a b)))) ∧ Below w.heap.size w w' := by
  obtain ⟨i0, hi, hz0, hz1, hz2⟩ := info_parts info3
  rw [← pat26 hb (by omega) (by omega)]
  have hpl : Hid ((pairs26 a b).length = n) := by show _ = _; rw [pairs26_len (by omega)]; exact hla
  have hat : Hid (∀ c, c < n → ∃ x y, a[c]? = some x ∧ b[c]? = some y ∧ x ≤ 25 ∧ y ≤ 25 ∧ (pairs26 a b)[c]? = some ((x * 26 + y : Nat) : Int)) := fun c hc => by
    obtain ⟨x, hx⟩ : ∃ x, a[c]? = some x := ⟨_, List.getElem?_eq_getElem (by omega)⟩
    obtain ⟨y, hy⟩ : ∃ x, b[c]? = some x := ⟨_, List.getElem?_eq_getElem (by omega)⟩
    have := leg_small ha (by omega) hx
    have := leg_small hb (by omega) hy
    exact ⟨x, y, hx, hy, by omega, by omega, pairs26_at hx hy⟩
  generalize pairs26 a b = L at *
  obtain ⟨oa, ca, rfl, _, hca⟩ := ra
  obtain ⟨ob, cb, rfl, _, hcb⟩ := rb
  rw [ints_len, hla, ints_len, hlb]
  have hca' := hide' hca
  have hcb' := hide' hcb
  clear hca hcb hla hlb ha hb
  go_enter Try.func38, Try.ntmps38
  go_wp2_with (at_make; refine wpList_make_full _ rfl _ _ 22 rfl w.heap.size 3 i0 (.int .i64 0) 1 Try.underlying22 hi hz0 hz1 .i64 .i64 _ _ n rfl rfl rfl rfl (by rw [hz2]; omega) (by unfold maxLen; omega) (by simp) ?_; intro w2 hrow hgrow)
  have hr1' : w2.ownsRow w.heap.size 3 1 (.slice (some ⟨w.heap.size, 0, none⟩) n n) n (cellsI (L.take 0) ++ List.replicate (n - 0) (.int .i64 0)) := by
    have h := hrow
    rw [show (Value.int .i64 0).cells = #[.int .i64 0] from rfl, toList_madeCells_one, Nat.mul_one] at h
    simpa [cellsI] using h
  have hr1 := hide' hr1'
  have hB1 : Hid (Below w.heap.size w w2) := (Below.refl _ w).grown hgrow (Nat.le_refl _) (fun j ej => by cases ej)
  clear hrow hgrow hr1'
  go_wp2
  go_loopw [6] (fun k wr => ∃ c : Nat, c ≤ n ∧ k = .int .i64 c ∧ Hid (wr.ownsRow w.heap.size 3 1 (.slice (some ⟨w.heap.size, 0, none⟩) n n) n (cellsI (L.take c) ++ List.replicate (n - c) (.int .i64 0))) ∧ Hid (Below w.heap.size w wr)) (fun k _ => ((n : Int) - intOf k).toNat)
  case atStart => exact ⟨0, Nat.zero_le _, rfl, hr1, hB1⟩
  case round =>
    clear hr1 hB1
    obtain ⟨c, hc, rfl, hrow, hB⟩ := hrel
    by_cases hlt : c < n
    · obtain ⟨x, y, hx, hy, hx25, hy25, hz⟩ := hat.out c hlt
      obtain ⟨g, o, rfl, x0⟩ := hca'.out c x (ints_at hx)
      obtain ⟨g2, o2, rfl, y0⟩ := hcb'.out c y (ints_at hy)
      have x1 := (hB.out.cell (p := ⟨g, o + c, none⟩) (cell_lt x0)).trans x0
      have y1 := (hB.out.cell (p := ⟨g2, o2 + c, none⟩) (cell_lt y0)).trans y0
      have hpl2 : (cellsI (L.take c)).length = c := by simp [cellsI]; have := hpl.out; omega
      have cz : wr.cell? ⟨w.heap.size, c, none⟩ = some (.int .i64 0) := by
        rw [hrow.out.cellAt c (by omega), List.getElem?_append_right (by omega), hpl2, Nat.sub_self, List.getElem?_replicate, if_pos (by omega)]
      have fz := hrow.out.frozenAt c
      have hS := (hrow.out.stored c (.int .i64 ((x : Int) * 26 + (y : Int)))).1.drew
      rw [set_mid (cellsI (L.take c)) c n _ (.int .i64 0) hpl2 hlt, show (x : Int) * 26 + (y : Int) = ((x * 26 + y : Nat) : Int) by simp, ← takeI_snoc hz, show ((x * 26 + y : Nat) : Int) = (x : Int) * 26 + (y : Int) by simp] at hS
      have hS' := hide' hS
      have hB2 := hide' (hB.out.setCell (Nat.le_refl _) (p := ⟨w.heap.size, c, none⟩) (.int .i64 ((x : Int) * 26 + (y : Int)))).drew
      clear x0 y0 hx hy hz hS hrow hB
      go_wp2
      go_region
      go_wp2
      exact ⟨⟨c + 1, by omega, by go_num, hS', hB2⟩, by simp [intOf]; omega⟩
    · obtain rfl : c = n := by omega
      have hrow1 := hrow.out
      rw [Nat.sub_self, List.replicate_zero, List.append_nil, List.take_of_length_le (by have := hpl.out; omega)] at hrow1
      have hR : RowI wr (.slice (some ⟨w.heap.size, 0, none⟩) c c) L := by
        have h1 : wr.ownsRow w.heap.size 3 1 (.slice (some ⟨w.heap.size, 0, none⟩) c c) c (cellsI L) := hrow1
        exact RowI.of_owns h1
      have KO := hide' (refOf c L _ c wr hR hpl.out (by omega))
      clear hrow hrow1 hR hat
      go_wp2_with (first | (go_at_call 7; refine KO.out.mono ?_; rintro e w3 ⟨rfl, hr3, hb3⟩))
      go_ret
      exact ⟨_, rfl, hr3, hB.out.trans (hb3.out.mono hB.out.size)⟩
theorem relab_len (l : List Nat) (f t : Nat) : (relab l f t).length = l.length := by simp [relab]
theorem merge_same (l : List Nat) (f t : Nat) : pat (ints (relab l f t)) = pat (ints (relab l t f)) := by
  refine pat_same (by simp [relab_len, ints_len]) fun i j y z y' z' hy hz hy' hz' => ?_
  have hi := (List.getElem?_eq_some_iff.1 hy).1
  have hj := (List.getElem?_eq_some_iff.1 hz).1
  rw [ints_len, relab_len] at hi hj
  obtain ⟨p, hp⟩ : ∃ x, l[i]? = some x := ⟨_, List.getElem?_eq_getElem hi⟩
  obtain ⟨r, hr⟩ : ∃ x, l[j]? = some x := ⟨_, List.getElem?_eq_getElem hj⟩
  have e1 : ∀ (f t i p : Nat), l[i]? = some p → (ints (relab l f t))[i]? = some (((if p = f then t else p : Nat)) : Int) := fun f t i p hp => ints_at (by rw [relab_at, hp]; rfl)
  rw [e1 f t i p hp] at hy
  rw [e1 f t j r hr] at hz
  rw [e1 t f i p hp] at hy'
  rw [e1 t f j r hr] at hz'
  cases hy; cases hz; cases hy'; cases hz'
  split <;> split <;> split <;> split <;> omega
set_option maxRecDepth 100000 in
set_option maxHeartbeats 2000000 in
theorem refMerge (n : Nat) (a : List Nat) (va : Value) (i j : Nat) (w : World) (ra : RowI w va (ints a)) (hla : a.length = n) (hn : n ≤ 25) (hi : i < n) (hj : j < n) :
    Calls Try.prog 36 #[va, .int .i64 (i : Int), .int .i64 (j : Int)] w fun e w' => ∃ g, e = .returned (.slice (some ⟨g, 0, none⟩) n n) ∧ Hid (RowI w' (.slice (some ⟨g, 0, none⟩) n n) (ints (mrg a i j))) ∧ Below w.heap.size w w' := by
  obtain ⟨i0, hi0, hz0, hz1, hz2⟩ := info_parts info3
  unfold mrg
  rw [merge_same]
  obtain ⟨p, hp⟩ : ∃ x, a[i]? = some x := ⟨_, List.getElem?_eq_getElem (by omega)⟩
  obtain ⟨r, hr⟩ : ∃ x, a[j]? = some x := ⟨_, List.getElem?_eq_getElem (by omega)⟩
  rw [show a.getD i 0 = p by rw [List.getD_eq_getElem?_getD, hp]; rfl, show a.getD j 0 = r by rw [List.getD_eq_getElem?_getD, hr]; rfl]
  have hpl : Hid ((ints (relab a r p)).length = n) := by show _ = _; rw [ints_len, relab_len]; exact hla
  have hat : Hid (∀ c, c < n → ∃ x, a[c]? = some x ∧ (ints (relab a r p))[c]? = some (((if x = r then p else x : Nat)) : Int)) := fun c hc => by
    obtain ⟨x, hx⟩ : ∃ x, a[c]? = some x := ⟨_, List.getElem?_eq_getElem (by omega)⟩
    exact ⟨x, hx, ints_at (by rw [relab_at, hx]; rfl)⟩
  generalize ints (relab a r p) = L at *
  obtain ⟨oa, ca, rfl, _, hca⟩ := ra
  rw [ints_len, hla]
  obtain ⟨g, o, rfl, p0⟩ := hca i p (ints_at hp)
  obtain ⟨_, _, e, r0⟩ := hca j r (ints_at hr)
  cases e
  have hgl := cell_lt p0
  have hca' : Hid (∀ (c x : Nat), a[c]? = some x → w.cell? ⟨g, o + c, none⟩ = some (.int .i64 (x : Int))) := fun c x hx => by
    obtain ⟨_, _, e, h⟩ := hca c x (ints_at hx)
    cases e
    exact h
  have p0' := hide' p0
  have r0' := hide' r0
  clear hca hla hp hr p0 r0
  go_enter Try.func36, Try.ntmps36
  go_wp2_with (at_make; refine wpList_make_full _ rfl _ _ 22 rfl w.heap.size 3 i0 (.int .i64 0) 1 Try.underlying22 hi0 hz0 hz1 .i64 .i64 _ _ n rfl rfl rfl rfl (by rw [hz2]; omega) (by unfold maxLen; omega) (by simp) ?_; intro w2 hrow hgrow)
  have hr1' : w2.ownsRow w.heap.size 3 1 (.slice (some ⟨w.heap.size, 0, none⟩) n n) n (cellsI (L.take 0) ++ List.replicate (n - 0) (.int .i64 0)) := by
    have h := hrow
    rw [show (Value.int .i64 0).cells = #[.int .i64 0] from rfl, toList_madeCells_one, Nat.mul_one] at h
    simpa [cellsI] using h
  have hr1 := hide' hr1'
  have hB1 : Hid (Below w.heap.size w w2) := (Below.refl _ w).grown hgrow (Nat.le_refl _) (fun j ej => by cases ej)
  clear hrow hgrow hr1'
  go_wp2
  go_loopw [8] (fun k wr => ∃ c : Nat, c ≤ n ∧ k = .int .i64 c ∧ Hid (wr.ownsRow w.heap.size 3 1 (.slice (some ⟨w.heap.size, 0, none⟩) n n) n (cellsI (L.take c) ++ List.replicate (n - c) (.int .i64 0))) ∧ Hid (Below w.heap.size w wr)) (fun k _ => ((n : Int) - intOf k).toNat)
  case atStart => exact ⟨0, Nat.zero_le _, rfl, hr1, hB1⟩
  case round =>
    clear hr1 hB1
    obtain ⟨c, hc, rfl, hrow, hB⟩ := hrel
    by_cases hlt : c < n
    · obtain ⟨x, hx, hz⟩ := hat.out c hlt
      have x1 := (hB.out.cell (p := ⟨g, o + c, none⟩) hgl).trans (hca'.out c x hx)
      have p1 := (hB.out.cell (p := ⟨g, o + i, none⟩) hgl).trans p0'.out
      have r1 := (hB.out.cell (p := ⟨g, o + j, none⟩) hgl).trans r0'.out
      have hpl2 : (cellsI (L.take c)).length = c := by simp [cellsI]; have := hpl.out; omega
      have cz : wr.cell? ⟨w.heap.size, c, none⟩ = some (.int .i64 0) := by
        rw [hrow.out.cellAt c (by omega), List.getElem?_append_right (by omega), hpl2, Nat.sub_self, List.getElem?_replicate, if_pos (by omega)]
      have fz := hrow.out.frozenAt c
      have hgne : ¬ w.heap.size = g := by omega
      have hgne' : ¬ g = w.heap.size := by omega
      by_cases hxr : x = r
      · have hxrb : ((x : Int) == (r : Int)) = true := by simp; omega
        rw [if_pos hxr] at hz
        have hS := ((hrow.out.stored c (.int .i64 (x : Int))).1.drew.stored c (.int .i64 (p : Int))).1
        rw [List.set_set, set_mid (cellsI (L.take c)) c n _ (.int .i64 0) hpl2 hlt, ← takeI_snoc hz] at hS
        have hS' := hide' hS
        have hB2 := hide' ((hB.out.setCell (Nat.le_refl _) (p := ⟨w.heap.size, c, none⟩) (.int .i64 (x : Int))).drew.setCell (Nat.le_refl _) (p := ⟨w.heap.size, c, none⟩) (.int .i64 (p : Int)))
        clear hx hz hS hrow hB hxr
        go_wp2
        go_region
        go_wp2
        exact ⟨⟨c + 1, by omega, by go_num, hS', hB2⟩, by simp [intOf]; omega⟩
      · have hxrb : ((x : Int) == (r : Int)) = false := by simp; omega
        rw [if_neg hxr] at hz
        have hS := (hrow.out.stored c (.int .i64 (x : Int))).1.drew
        rw [set_mid (cellsI (L.take c)) c n _ (.int .i64 0) hpl2 hlt, ← takeI_snoc hz] at hS
        have hS' := hide' hS
        have hB2 := hide' (hB.out.setCell (Nat.le_refl _) (p := ⟨w.heap.size, c, none⟩) (.int .i64 (x : Int))).drew
        clear hx hz hS hrow hB hxr
        go_wp2
        go_region
        go_wp2
        exact ⟨⟨c + 1, by omega, by go_num, hS', hB2⟩, by simp [intOf]; omega⟩
    · obtain rfl : c = n := by omega
      have hrow1 := hrow.out
      rw [Nat.sub_self, List.replicate_zero, List.append_nil, List.take_of_length_le (by have := hpl.out; omega)] at hrow1
      have hR : RowI wr (.slice (some ⟨w.heap.size, 0, none⟩) c c) L := by
        have h1 : wr.ownsRow w.heap.size 3 1 (.slice (some ⟨w.heap.size, 0, none⟩) c c) c (cellsI L) := hrow1
        exact RowI.of_owns h1
      have KO := hide' (refOf c L _ c wr hR hpl.out (by omega))
      clear hrow hrow1 hR hat
      go_wp2_with (first | (go_at_call 7; refine KO.out.mono ?_; rintro e w3 ⟨rfl, hr3, hb3⟩))
      go_ret
      exact ⟨_, rfl, hr3, hB.out.trans (hb3.out.mono hB.out.size)⟩
end Go.Proofs.Ytagkopmegfmhaaa

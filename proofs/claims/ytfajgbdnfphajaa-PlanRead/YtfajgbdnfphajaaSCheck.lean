/- Check: may it be a problem? -/
import Derived.Test.YtfajgbdnfphajaaSMay
namespace Go.Proofs.Ytfajgbdnfphajaa.S
open Go.RowKit Go.Shelf
def isU (P : Pb) (x : Int) : Bool := decide (0 ≤ x) && decide (x < P.users)
def fixB (P : Pb) : Bool := P.fixed.all (fun x => decide (x = -1) || isU P x) && decide (P.fixed.length = P.who.length)
def outU (U z : Nat) : Bool := decide (z / 2 ^ U = 0)
def whoB (P : Pb) : Bool := P.who.all (outU P.users.toNat)
def rulB (P : Pb) : Bool := P.rules.all fun r => chk (P.who.length : Int) r
def chkN (P : Pb) : Nat := if 12 < P.who.length ∨ 64 < P.users ∨ 32 < P.rules.length then 2 else if P.users < 0 ∨ fixB P = false ∨ whoB P = false ∨ rulB P = false then 1 else 0
/-- The four parts of a problem are what they are. -/
def PbS (P : Pb) (wv fv rv : Value) : Prop := ∃ ow cw of cf or cr, wv = .slice ow P.who.length cw ∧ fv = .slice of P.fixed.length cf ∧ rv = .slice or P.rules.length cr
theorem PbV.shape {w : World} {P : Pb} {wv fv rv : Value} (h : PbV w P wv fv rv) : PbS P wv fv rv := by
  obtain ⟨ow, cw, e1, _⟩ := h.who
  obtain ⟨of, cf, e2, _⟩ := h.fixed
  obtain ⟨or, cr, e3, _⟩ := h.rules
  exact ⟨ow, cw, of, cf, or, cr, e1, e2, e3⟩
set_option maxRecDepth 100000 in
set_option maxHeartbeats 1000000 in
theorem isUserF (P : Pb) (wv fv rv : Value) (x : Int) (w : World) (h : PbS P wv fv rv) :
    Calls Try.prog 26 #[pbV P wv fv rv, .int .i64 x] w fun e w' => e = .returned (.bool (isU P x)) ∧ Below w.heap.size w w' := by
  obtain ⟨ow, cw, of, cf, or, cr, rfl, rfl, rfl⟩ := h
  have hB : Hid (Below w.heap.size w (w.alloc (.cells #[.int .i64 P.users, .slice ow P.who.length cw, .slice of P.fixed.length cf, .slice or P.rules.length cr] 27))) := (Below.refl _ w).alloc (Nat.le_refl _) _
  unfold pbV isU
  by_cases h0 : 0 ≤ x
  · rw [decide_eq_true h0, Bool.true_and]
    go_enter Try.func26, Try.ntmps26
    go_wp2
    go_ret
    exact ⟨rfl, hB.out⟩
  · rw [decide_eq_false h0, Bool.false_and]
    go_enter Try.func26, Try.ntmps26
    go_wp2
    go_ret
    exact ⟨rfl, hB.out⟩
theorem all_take {α : Type} (f : α → Bool) {L : List α} {j : Nat} {x : α} (h : L[j]? = some x) : (L.take (j + 1)).all f = ((L.take j).all f && f x) := by
  rw [List.take_add_one, h]; simp
theorem all_no {α : Type} (f : α → Bool) {L : List α} {j : Nat} {x : α} (h : L[j]? = some x) (he : f x = false) : L.all f = false := by
  rw [List.all_eq_false]
  exact ⟨x, List.mem_of_getElem? h, by rw [he]; decide⟩
set_option maxRecDepth 100000 in
set_option maxHeartbeats 2000000 in
theorem fixedFitF (P : Pb) (wv fv rv : Value) (w : World) (h : PbV w P wv fv rv) (hl : P.fixed.length ≤ 1000) :
    Calls Try.prog 38 #[pbV P wv fv rv] w fun e w' => e = .returned (.bool (fixB P)) ∧ Below w.heap.size w w' := by
  have hs := h.shape
  have KU : Hid (∀ V x, Calls Try.prog 26 #[pbV P wv fv rv, .int .i64 x] V fun e w' => e = .returned (.bool (isU P x)) ∧ Below V.heap.size V w') := fun V x => isUserF P wv fv rv x V hs
  have hf := h.fixed
  obtain ⟨ow, cw, of, cf, or, cr, rfl, rfl, rfl⟩ := hs
  obtain ⟨oa, cap, e, _, hc⟩ := hf
  injection e with e1 e2 e3
  subst e1
  subst e3
  have hc' := hide' hc
  have hB0 : Hid (Below w.heap.size w (w.alloc (.cells #[.int .i64 P.users, .slice ow P.who.length cw, .slice of P.fixed.length cf, .slice or P.rules.length cr] 27))) := (Below.refl _ w).alloc (Nat.le_refl _) _
  have hb0 : Hid ((w.alloc (.cells #[.int .i64 P.users, .slice ow P.who.length cw, .slice of P.fixed.length cf, .slice or P.rules.length cr] 27)).heap[w.heap.size]? = some (.cells #[.int .i64 P.users, .slice ow P.who.length cw, .slice of P.fixed.length cf, .slice or P.rules.length cr] 27 (0, 0))) := heap_new w _
  unfold pbV at KU ⊢
  unfold fixB
  clear h hc e2
  go_enter Try.func38, Try.ntmps38
  go_wp2
  go_loopw [4, 8] (fun _ p wr => ∃ j : Nat, j ≤ P.fixed.length ∧ p = .int .i64 (j : Int) ∧ Hid ((P.fixed.take j).all (fun x => decide (x = -1) || isU P x) = true) ∧ Hid (Below w.heap.size w wr) ∧ Hid (wr.heap[w.heap.size]? = some (.cells #[.int .i64 P.users, .slice ow P.who.length cw, .slice of P.fixed.length cf, .slice or P.rules.length cr] 27 (0, 0)))) (fun _ p _ => ((P.fixed.length : Int) - intOf p).toNat)
  case atStart => exact ⟨0, Nat.zero_le _, rfl, rfl, hB0, hb0⟩
  case round =>
    clear hB0 hb0
    obtain ⟨j, hj, rfl, hE, hB, hb⟩ := hrel
    have q0 : wr.cell? ⟨w.heap.size, 0, none⟩ = some (.int .i64 P.users) := by have := hb.out; simp [World.cell?, this]
    have q1 : wr.cell? ⟨w.heap.size, 1, none⟩ = some (.slice ow P.who.length cw) := by have := hb.out; simp [World.cell?, this]
    have q2 : wr.cell? ⟨w.heap.size, 2, none⟩ = some (.slice of P.fixed.length cf) := by have := hb.out; simp [World.cell?, this]
    have q3 : wr.cell? ⟨w.heap.size, 3, none⟩ = some (.slice or P.rules.length cr) := by have := hb.out; simp [World.cell?, this]
    by_cases hlt : j < P.fixed.length
    · have hlt' : (j : Int) < (P.fixed.length : Int) := by omega
      obtain ⟨x, hx⟩ : ∃ x, P.fixed[j]? = some x := ⟨_, List.getElem?_eq_getElem hlt⟩
      obtain ⟨g, o, rfl, d1⟩ := hc'.out j x hx
      have d2 := M.cell_over d1 hB.out
      have hsn := hide' (all_take (fun x => decide (x = -1) || isU P x) hx)
      have hno := hide' (fun h => all_no (fun x => decide (x = -1) || isU P x) hx h)
      have hblk := (Array.getElem?_eq_some_iff.1 hb.out).1
      clear d1 hx
      by_cases he : x = -1
      · subst he
        have hE2 : Hid ((P.fixed.take (j + 1)).all (fun x => decide (x = -1) || isU P x) = true) := by show _ = _; rw [hsn.out, hE.out]; simp
        clear hsn hno hE
        go_wp2
        exact ⟨⟨j + 1, by omega, by go_num, hE2, hB, hb⟩, by simp [intOf]; omega⟩
      · have hne : (x != -1) = true := by rw [bne_iff_ne]; exact he
        cases hu : isU P x with
        | true =>
          have hE2 : Hid ((P.fixed.take (j + 1)).all (fun x => decide (x = -1) || isU P x) = true) := by show _ = _; rw [hsn.out, hE.out, hu]; simp
          have K2 := hide' (KU.out wr x)
          rw [hu] at K2
          clear hsn hno hE
          go_wp2_with fail
          refine K2.out.mono ?_
          rintro e w5 ⟨rfl, hb5⟩
          have hB5 : Hid (Below w.heap.size w w5) := hB.out.trans (hb5.mono hB.out.size)
          have hb6 : Hid (w5.heap[w.heap.size]? = some (.cells #[.int .i64 P.users, .slice ow P.who.length cw, .slice (some ⟨g, o, none⟩) P.fixed.length cf, .slice or P.rules.length cr] 27 (0, 0))) := (hb5.block _ hblk).trans hb.out
          clear hb5 hb hB K2
          go_wp2
          exact ⟨⟨j + 1, by omega, by go_num, hE2, hB5, hb6⟩, by simp [intOf]; omega⟩
        | false =>
          have hE2 := hide' (hno.out (by simp [he, hu]))
          have K2 := hide' (KU.out wr x)
          rw [hu] at K2
          clear hsn hno hE
          go_wp2_with fail
          refine K2.out.mono ?_
          rintro e w5 ⟨rfl, hb5⟩
          have hB5 : Hid (Below w.heap.size w w5) := hB.out.trans (hb5.mono hB.out.size)
          clear hb5 hb hB K2
          go_wp2
          go_ret
          exact ⟨ret_bool (by rw [hE2.out]; rfl), hB5.out⟩
    · obtain rfl : j = P.fixed.length := by omega
      rw [List.take_length] at hE
      have hcmp : Hid (((P.fixed.length : Int) == (P.who.length : Int)) = decide (P.fixed.length = P.who.length)) := by
        show _ = _
        by_cases e : P.fixed.length = P.who.length
        · rw [e]; simp
        · rw [decide_eq_false e, beq_eq_false_iff_ne]; omega
      clear hc'
      go_wp2
      go_ret
      exact ⟨ret_bool (by rw [hE.out, Bool.true_and]; exact hcmp.out), hB.out⟩
end Go.Proofs.Ytfajgbdnfphajaa.S

/- The document's early: can each rule still be kept? -/
import Derived.Test.YtmbdnhgmpmnhmaaGreatDoorJ26
import Derived.Test.YtmbdnhgmpmnhmaaGreatDoorJ29
import Derived.Test.YtmbdnhgmpmnhmaaGreatDoorJ36
import Derived.Deep.RegionHeld3
namespace Go.Proofs.YtmbdnhgmpmnhmaaGreatDoor.S
open Go.RowKit Go.Shelf
theorem all_snoc {α : Type} {f : α → Bool} {L : List α} {c : Nat} {r : α} (h : L[c]? = some r) (h1 : (L.take c).all f = true) (h2 : f r = true) : (L.take (c + 1)).all f = true := by
  rw [List.take_add_one, h, List.all_append, h1]
  simp [h2]
set_option maxRecDepth 100000 in
set_option maxHeartbeats 2000000 in
theorem earlyDF (P : Pb) (wv fv rvv : Value) (a : List Nat) (av : Value) (w : World) (h : PbV w P wv fv rvv) (ha : RowI w av (ints a)) (hk : Pok P) :
    Calls Tryz.prog 82 #[pbV P wv fv rvv, av] w fun e w' => e = .returned (.bool (earA P a)) ∧ Below w.heap.size w w' := by
  have hs := h.shape
  have hB0 : Hid (Below w.heap.size w (w.alloc (.cells #[.int .i64 P.users, wv, fv, rvv] 26))) := (Below.refl _ w).alloc (Nat.le_refl _) _
  have hb0 : Hid (PbB (w.alloc (.cells #[.int .i64 P.users, wv, fv, rvv] 26)) w.heap.size P wv fv rvv) := heap_new w _
  have KE : Hid (∀ r sv W, r ∈ P.rules → RowI w sv r.steps → Below w.heap.size w W → Calls Tryz.prog 100 #[rv r sv, .int .i64 (P.who.length : Int), av] W fun e w' => e = .returned (.bool (early r (P.who.length : Int) (ints a))) ∧ Below W.heap.size W w') := fun r sv W hr hs hW => rEarly r _ sv av (ints a) W (hs.below hW (Nat.le_refl _)) (ha.below hW (Nat.le_refl _)) (hk.s r hr)
  have hE : Hid (∀ r ∈ P.rules, early r (P.who.length : Int) (ints a) = false → earA P a = false) := fun r hr h0 => by
    unfold earA
    rw [List.all_eq_false]
    exact ⟨r, hr, by rw [h0]; decide⟩
  have hT : Hid ((P.rules.take P.rules.length).all (fun r => early r (P.who.length : Int) (ints a)) = true → earA P a = true) := fun h0 => by rw [List.take_length] at h0; exact h0
  have hr := h.rules
  have hR := hk.r
  obtain ⟨ow, cw, of, cf, or, cr, rfl, rfl, rfl⟩ := hs
  obtain ⟨oa, ca, rfl, _, _⟩ := ha
  obtain ⟨or', cr', he, _, hc⟩ := hr
  injection he with e1 _ e2
  subst e1 e2
  have hc' := hide' hc
  unfold pbV
  clear h hk hc
  generalize earA P a = z at *
  go_enter Tryz.func82, Tryz.ntmps82
  go_wp2
  generalize w.alloc (.cells #[.int .i64 P.users, .slice ow P.who.length cw, .slice of P.fixed.length cf, .slice or P.rules.length cr] 26) = W1 at *
  have hM : Hid (∀ V, Below W1.heap.size W1 V → Below w.heap.size w V ∧ V.cell? ⟨w.heap.size, 1, none⟩ = some (.slice ow P.who.length cw) ∧ V.cell? ⟨w.heap.size, 3, none⟩ = some (.slice or P.rules.length cr)) := fun V hV => ⟨hB0.out.trans (hV.mono hB0.out.size), (hb0.out.below hV).all.2.1, (hb0.out.below hV).all.2.2.2⟩
  clear hb0
  go_loopw [5] (fun k wr => ∃ (c : Nat), c ≤ P.rules.length ∧ k = .int .i64 c ∧ Hid ((P.rules.take c).all (fun r => early r (P.who.length : Int) (ints a)) = true) ∧ Hid (Below W1.heap.size W1 wr)) (fun k _ => ((P.rules.length : Int) - intOf k).toNat)
  case atStart => exact ⟨0, Nat.zero_le _, rfl, rfl, Below.refl _ _⟩
  case round =>
    obtain ⟨c, hcl, rfl, hA, hB⟩ := hrel
    have q3 := (hM.out wr hB.out).2.2
    by_cases hlt : c < P.rules.length
    · obtain ⟨r, hx⟩ : ∃ x, P.rules[c]? = some x := ⟨_, List.getElem?_eq_getElem hlt⟩
      obtain ⟨g, o, sv, rfl, c1', c2', c3', hs⟩ := hc'.out c r hx
      have hrm := List.mem_of_getElem? hx
      have hcell : Hid (∀ V, Below W1.heap.size W1 V → V.cell? ⟨w.heap.size, 1, none⟩ = some (.slice ow P.who.length cw) ∧ V.cell? ⟨w.heap.size, 3, none⟩ = some (.slice (some ⟨g, o, none⟩) P.rules.length cr) ∧ V.cell? ⟨g, o + c * 3, none⟩ = some (.int .i64 r.kind) ∧ V.cell? ⟨g, o + c * 3 + 1, none⟩ = some (.int .i64 r.k) ∧ V.cell? ⟨g, o + c * 3 + 2, none⟩ = some sv) := fun V hV => by
        have h1 := hM.out V hV
        exact ⟨h1.2.1, h1.2.2, (h1.1.cell (p := ⟨g, o + c * 3, none⟩) (cell_lt c1')).trans c1', (h1.1.cell (p := ⟨g, o + c * 3 + 1, none⟩) (cell_lt c2')).trans c2', (h1.1.cell (p := ⟨g, o + c * 3 + 2, none⟩) (cell_lt c3')).trans c3'⟩
      have hBd : Hid (Below W1.heap.size W1 wr.drew) := hB.out.drew
      have hH := hide' (KE.out r sv wr.drew hrm hs (hM.out _ hBd.out).1)
      have hNx := hide' (fun h2 => all_snoc (f := fun r => early r (P.who.length : Int) (ints a)) hx hA.out h2)
      have hFl := hide' (hE.out r hrm)
      have hS0 := hide' (hcell.out _ hBd.out)
      obtain ⟨os, cs, rfl, _, _⟩ := hs
      unfold rv at hH
      clear KE hc' c1' c2' c3' hx hE hrm hA
      generalize r.steps.length = q at *
      generalize r.kind = kd at *
      generalize r.k = kk at *
      cases hh : early r (P.who.length : Int) (ints a) with
      | true =>
        rw [hh] at hH
        have hN2 := hide' (hNx.out hh)
        clear hh hFl hNx hT
        as_aux_lemma =>
        go_wp2
        go_region_held3 (fun V => V.cell? ⟨w.heap.size, 1, none⟩ = some (.slice ow P.who.length cw) ∧ V.cell? ⟨w.heap.size, 3, none⟩ = some (.slice (some ⟨g, o, none⟩) P.rules.length cr) ∧ V.cell? ⟨g, o + c * 3, none⟩ = some (.int .i64 kd) ∧ V.cell? ⟨g, o + c * 3 + 1, none⟩ = some (.int .i64 kk) ∧ V.cell? ⟨g, o + c * 3 + 2, none⟩ = some (.slice os q cs)) (first | (exact hS0.out) | (exact hcell.out _ (hBd.out.trans (hb1.mono hBd.out.size)))) (first | (go_at_call 100; refine hH.out.mono ?_; rintro e w1 ⟨rfl, hb1⟩))
        have hB1 := hide' (hBd.out.trans (hb1.mono hBd.out.size))
        clear hb1 hH hcell hS0 hBd
        go_wp2
        exact ⟨⟨c + 1, by omega, by go_num, hN2, hB1⟩, by simp [intOf]; omega⟩
      | false =>
        rw [hh] at hH
        obtain rfl : z = false := hFl.out hh
        clear hh hFl hNx hT
        as_aux_lemma =>
        go_wp2
        go_region_held3 (fun V => V.cell? ⟨w.heap.size, 1, none⟩ = some (.slice ow P.who.length cw) ∧ V.cell? ⟨w.heap.size, 3, none⟩ = some (.slice (some ⟨g, o, none⟩) P.rules.length cr) ∧ V.cell? ⟨g, o + c * 3, none⟩ = some (.int .i64 kd) ∧ V.cell? ⟨g, o + c * 3 + 1, none⟩ = some (.int .i64 kk) ∧ V.cell? ⟨g, o + c * 3 + 2, none⟩ = some (.slice os q cs)) (first | (exact hS0.out) | (exact hcell.out _ (hBd.out.trans (hb1.mono hBd.out.size)))) (first | (go_at_call 100; refine hH.out.mono ?_; rintro e w1 ⟨rfl, hb1⟩))
        have hB1 := hide' (hM.out _ (hBd.out.trans (hb1.mono hBd.out.size))).1
        clear hb1 hH hcell hS0 hBd
        go_wp2
        go_ret
        exact ⟨rfl, hB1.out⟩
    · obtain rfl : c = P.rules.length := by omega
      obtain rfl : z = true := hT.out hA.out
      have hB1 := hide' (hM.out _ hB.out).1
      clear hc' KE hE hT hA
      go_wp2
      go_ret
      exact ⟨rfl, hB1.out⟩
end Go.Proofs.YtmbdnhgmpmnhmaaGreatDoor.S

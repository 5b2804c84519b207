/- provostkeep's Rule and Rules, where they are the same. -/
import Derived.Test.YtahfobbiaimoiaaGreatDoorJ09
import Derived.Test.YtahfobbiaimoiaaGreatDoorJ10
import Derived.Deep.RegionHeld3
namespace Go.Proofs.YtahfobbiaimoiaaGreatDoor
open Go.RowKit
set_option maxRecDepth 100000 in
set_option maxHeartbeats 1000000 in
theorem keepRule (r : Rl) (sa sb : Value) (w : World) (ha : RowI w sa r.steps) (hb : RowI w sb r.steps) (hm : r.steps.length ≤ 1000) :
    Calls Tryz.prog 100 #[rv r sa, rv r sb] w fun e w' => e = .returned (.bool true) ∧ Below w.heap.size w w' := by
  have KI : Hid (∀ W, Below w.heap.size w W → Calls Tryz.prog 27 #[sa, sb] W fun e w' => e = .returned (.bool true) ∧ Below W.heap.size W w') := fun W hW => by
    have := keepInts r.steps r.steps sa sb W (ha.below hW (Nat.le_refl _)) (hb.below hW (Nat.le_refl _)) (by omega) (by omega)
    simpa using this
  have hB : Hid (Below w.heap.size w ((w.alloc (.cells #[.int .i64 r.kind, .int .i64 r.k, sa] 82)).alloc (.cells #[.int .i64 r.kind, .int .i64 r.k, sb] 82))) := ((Below.refl _ w).alloc (Nat.le_refl _) _).alloc (by simp) _
  unfold rv
  clear ha hb hm
  generalize r.kind = kd at *
  generalize r.k = kk at *
  go_enter Tryz.func100, Tryz.ntmps100
  go_wp2_with (first | (go_at_call 27; refine (KI.out _ hB.out).mono ?_; rintro e w1 ⟨rfl, hb1⟩))
  go_ret
  exact ⟨rfl, hB.out.trans (hb1.mono hB.out.size)⟩
theorem cell_ovN {w w' : World} {b o : Nat} {v : Value} (h : w.cell? ⟨b, o, none⟩ = some v) (hb : Below w.heap.size w w') : w'.cell? ⟨b, o, none⟩ = some v := (hb.cell (p := ⟨b, o, none⟩) (cell_lt h)).trans h
set_option maxRecDepth 100000 in
set_option maxHeartbeats 2000000 in
theorem keepRules (L : List Rl) (va vb : Value) (w : World) (ha : RowR w va L) (hb : RowR w vb L) (hl : L.length ≤ 1000) (hm : ∀ r ∈ L, r.steps.length ≤ 1000) :
    Calls Tryz.prog 59 #[va, vb] w fun e w' => e = .returned (.bool true) ∧ Below w.heap.size w w' := by
  obtain ⟨oa, ca, rfl, _, hca⟩ := ha
  obtain ⟨ob, cb, rfl, _, hcb⟩ := hb
  have hca' := hide' hca
  have hcb' := hide' hcb
  have hm' := hide' hm
  clear hca hcb hm
  go_enter Tryz.func59, Tryz.ntmps59
  go_wp2
  go_loopw [5] (fun k wr => ∃ c : Nat, c ≤ L.length ∧ k = .int .i64 c ∧ Hid (Below w.heap.size w wr)) (fun k _ => ((L.length : Int) - intOf k).toNat)
  case atStart => exact ⟨0, Nat.zero_le _, rfl, Below.refl _ _⟩
  case round =>
    obtain ⟨c, hcl, rfl, hB⟩ := hrel
    by_cases hlt : c < L.length
    · obtain ⟨r, hx⟩ : ∃ r, L[c]? = some r := ⟨_, List.getElem?_eq_getElem hlt⟩
      obtain ⟨g, o, sa, rfl, a0, a1, a2, ra⟩ := hca'.out c r hx
      obtain ⟨g', o', sb, rfl, b0, b1, b2, rb⟩ := hcb'.out c r hx
      have KR : Hid (∀ W, Below wr.heap.size wr W → Calls Tryz.prog 100 #[.agg #[.int .i64 r.kind, .int .i64 r.k, sa], .agg #[.int .i64 r.kind, .int .i64 r.k, sb]] W fun e w' => e = .returned (.bool true) ∧ Below W.heap.size W w') := fun W hW => keepRule r sa sb W ((ra.below hB.out (Nat.le_refl _)).below hW (Nat.le_refl _)) ((rb.below hB.out (Nat.le_refl _)).below hW (Nat.le_refl _)) (hm'.out r (List.mem_of_getElem? hx))
      have hC : Hid (∀ V, Below wr.heap.size wr V → V.cell? ⟨g, o + c * 3, none⟩ = some (.int .i64 r.kind) ∧ V.cell? ⟨g, o + c * 3 + 1, none⟩ = some (.int .i64 r.k) ∧ V.cell? ⟨g, o + c * 3 + 2, none⟩ = some sa ∧ V.cell? ⟨g', o' + c * 3, none⟩ = some (.int .i64 r.kind) ∧ V.cell? ⟨g', o' + c * 3 + 1, none⟩ = some (.int .i64 r.k) ∧ V.cell? ⟨g', o' + c * 3 + 2, none⟩ = some sb) := fun V hV => ⟨cell_ovN (cell_ovN a0 hB.out) hV, cell_ovN (cell_ovN a1 hB.out) hV, cell_ovN (cell_ovN a2 hB.out) hV, cell_ovN (cell_ovN b0 hB.out) hV, cell_ovN (cell_ovN b1 hB.out) hV, cell_ovN (cell_ovN b2 hB.out) hV⟩
      have hd : Hid (Below wr.heap.size wr wr.drew) := (Below.refl _ _).drew
      obtain ⟨os, cs, rfl, _, _⟩ := ra
      obtain ⟨os', cs', rfl, _, _⟩ := rb
      clear hca' hcb' hx a0 a1 a2 b0 b1 b2 hm'
      generalize r.kind = kd at *
      generalize r.k = kk at *
      generalize r.steps.length = q at *
      go_wp2_with fail
      go_region_held3 (fun V => V.cell? ⟨g, o + c * 3, none⟩ = some (.int .i64 kd) ∧ V.cell? ⟨g, o + c * 3 + 1, none⟩ = some (.int .i64 kk) ∧ V.cell? ⟨g, o + c * 3 + 2, none⟩ = some (.slice os q cs) ∧ V.cell? ⟨g', o' + c * 3, none⟩ = some (.int .i64 kd) ∧ V.cell? ⟨g', o' + c * 3 + 1, none⟩ = some (.int .i64 kk) ∧ V.cell? ⟨g', o' + c * 3 + 2, none⟩ = some (.slice os' q cs')) (first | (exact hC.out _ hd.out) | (exact hC.out _ h1.out)) (first | (go_at_call 100; refine (KR.out _ hd.out).mono ?_; rintro e w1 ⟨rfl, hb⟩; have h1 : Hid (Below wr.heap.size wr w1) := hd.out.trans hb; clear hb))
      all_goals
        go_wp2
        exact ⟨⟨c + 1, by omega, by go_num, hB.out.trans (h1.out.mono hB.out.size)⟩, by simp [intOf]; omega⟩
    · obtain rfl : c = L.length := by omega
      clear hca' hcb'
      go_wp2
      go_ret
      exact ⟨rfl, hB.out⟩
end Go.Proofs.YtahfobbiaimoiaaGreatDoor

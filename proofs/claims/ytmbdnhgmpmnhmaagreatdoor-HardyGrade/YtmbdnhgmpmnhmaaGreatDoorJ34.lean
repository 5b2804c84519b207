/- keep.Rows of like words; a problem in its box. -/
import Derived.Test.YtmbdnhgmpmnhmaaGreatDoorJ26
import Derived.Test.YtmbdnhgmpmnhmaaGreatDoorJ32
import Derived.Test.YtmbdnhgmpmnhmaaGreatDoorJ33
namespace Go.Proofs.YtmbdnhgmpmnhmaaGreatDoor.S
open Go.RowKit Go.Shelf
attribute [local irreducible] wpQuiet
set_option maxRecDepth 100000 in
set_option maxHeartbeats 2000000 in
theorem keepRowsH (L : List Nat) (va vb : Value) (w : World) (ha : RowW w va L) (hb : RowW w vb L) (hl : L.length ≤ 1000000) :
    Calls Tryz.prog 9 #[va, vb] w fun e w' => e = .returned (.bool true) ∧ Below w.heap.size w w' := by
  obtain ⟨oa, ca, rfl, _, hca⟩ := ha
  obtain ⟨ob, cb, rfl, _, hcb⟩ := hb
  have hca' := hide' hca
  have hcb' := hide' hcb
  clear hca hcb
  go_enter Tryz.func9, Tryz.ntmps9
  go_wp2
  go_loopw [5] (fun p wr => ∃ j : Nat, j ≤ L.length ∧ p = .int .i64 (j : Int) ∧ Hid (Below w.heap.size w wr)) (fun p _ => ((L.length : Int) - intOf p).toNat)
  case atStart => exact ⟨0, Nat.zero_le _, rfl, Below.refl _ _⟩
  case round =>
    obtain ⟨j, hj, rfl, hB⟩ := hrel
    by_cases hlt : j < L.length
    · have hlt' : (j : Int) < (L.length : Int) := by omega
      obtain ⟨f, hf⟩ : ∃ f, L[j]? = some f := ⟨_, List.getElem?_eq_getElem hlt⟩
      obtain ⟨g, o, rfl, d1⟩ := hca'.out j f hf
      obtain ⟨g', o', rfl, e1⟩ := hcb'.out j f hf
      have d1' := M.cell_over d1 hB.out
      have e1' := M.cell_over e1 hB.out
      clear hf hca' hcb' d1 e1
      go_wp2
      go_quiet (fail)
      go_wp2
      exact ⟨⟨j + 1, by omega, by go_num, below_drewS hB.out _⟩, by simp [intOf]; omega⟩
    · obtain rfl : j = L.length := by omega
      clear hca' hcb'
      go_wp2
      go_ret
      exact ⟨rfl, hB.out⟩
structure TxH (X : Pb) (g : Nat) (a b c : Value) (V : World) : Prop where
  pb : PbB V g X a b c
  pv : PbV V X a b c
theorem TxH.over {X : Pb} {g : Nat} {a b c : Value} {V V' : World} (h : TxH X g a b c V) (hb : Below V.heap.size V V') : TxH X g a b c V' := ⟨h.pb.below hb, h.pv.below hb⟩
theorem TxH.start {X : Pb} {a b c : Value} {V : World} (h1 : PbV V X a b c) : TxH X V.heap.size a b c (V.alloc (.cells #[.int .i64 X.users, a, b, c] 26)) :=
  ⟨heap_new V _, h1.below ((Below.refl _ V).alloc (Nat.le_refl _) _)⟩
end Go.Proofs.YtmbdnhgmpmnhmaaGreatDoor.S

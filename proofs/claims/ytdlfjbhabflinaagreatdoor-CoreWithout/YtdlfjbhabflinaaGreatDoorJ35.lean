/- core's law: the same problem. -/
import Derived.Test.YtdlfjbhabflinaaGreatDoorJ31
import Derived.Test.YtdlfjbhabflinaaGreatDoorJ32
import Derived.Test.YtdlfjbhabflinaaGreatDoorJ34
namespace Go.Proofs.YtdlfjbhabflinaaGreatDoor.S
open Go.RowKit Go.Shelf
attribute [local irreducible] wpQuiet
set_option maxRecDepth 100000 in
set_option maxHeartbeats 2000000 in
theorem keepRowsC (L : List Nat) (va vb : Value) (w : World) (ha : RowW w va L) (hb : RowW w vb L) (hl : L.length ≤ 1000000) :
    Calls Tryz.prog 26 #[va, vb] w fun e w' => e = .returned (.bool true) ∧ Below w.heap.size w w' := by
  obtain ⟨oa, ca, rfl, _, hca⟩ := ha
  obtain ⟨ob, cb, rfl, _, hcb⟩ := hb
  have hca' := hide' hca
  have hcb' := hide' hcb
  clear hca hcb
  go_enter Tryz.func26, Tryz.ntmps26
  go_wp2
  go_loopw [5] (fun p wr => ∃ j : Nat, j ≤ L.length ∧ p = .int .i64 (j : Int) ∧ Hid (Below w.heap.size w wr)) (fun p _ => ((L.length : Int) - intOf p).toNat)
  case atStart => exact ⟨0, Nat.zero_le _, rfl, Below.refl _ _⟩
  case round =>
    obtain ⟨j, hj, rfl, hB⟩ := hrel
    by_cases hlt : j < L.length
    · have hlt' : (j : Int) < (L.length : Int) := by omega
      obtain ⟨f, hf⟩ : ∃ f, L[j]? = some f := ⟨_, List.getElem?_eq_getElem hlt⟩
      obtain ⟨g, o, rfl, d1⟩ := hca'.out j f hf
      obtain ⟨g', o', rfl, e1⟩ := hcb'.out j f hf
      have d1' := M.cell_over d1 hB.out
      have e1' := M.cell_over e1 hB.out
      clear hf hca' hcb' d1 e1
      go_wp2
      go_quiet (fail)
      go_wp2
      exact ⟨⟨j + 1, by omega, by go_num, below_drewS hB.out _⟩, by simp [intOf]; omega⟩
    · obtain rfl : j = L.length := by omega
      clear hca' hcb'
      go_wp2
      go_ret
      exact ⟨rfl, hB.out⟩
/-- What stands in same. -/
structure Sm2 (w : World) (X : Pb) (a1 a2 a3 b1 b2 b3 : Value) (V : World) : Prop where
  pa : PbB V w.heap.size X a1 a2 a3
  pb : PbB V (w.heap.size + 1) X b1 b2 b3
  va : PbV V X a1 a2 a3
  vb : PbV V X b1 b2 b3
  be : Below w.heap.size w V
theorem Sm2.over {w : World} {X : Pb} {a1 a2 a3 b1 b2 b3 : Value} {V V' : World} (h : Sm2 w X a1 a2 a3 b1 b2 b3 V) (hb : Below V.heap.size V V') : Sm2 w X a1 a2 a3 b1 b2 b3 V' := ⟨h.pa.below hb, h.pb.below hb, h.va.below hb, h.vb.below hb, h.be.trans (hb.mono h.be.size)⟩
set_option maxRecDepth 100000 in
set_option maxHeartbeats 2000000 in
theorem sameF (X : Pb) (a1 a2 a3 b1 b2 b3 : Value) (w : World) (ha : PbV w X a1 a2 a3) (hb : PbV w X b1 b2 b3) (hk : Pok X) :
    Calls Tryz.prog 17 #[.agg #[.int .i64 X.users, a1, a2, a3], .agg #[.int .i64 X.users, b1, b2, b3]] w fun e w' => e = .returned (.bool true) ∧ Below w.heap.size w w' := by
  have hS0 : Hid (Sm2 w X a1 a2 a3 b1 b2 b3 ((w.alloc (.cells #[.int .i64 X.users, a1, a2, a3] 26)).alloc (.cells #[.int .i64 X.users, b1, b2, b3] 26))) := by
    have n1 : PbB (w.alloc (.cells #[.int .i64 X.users, a1, a2, a3] 26)) w.heap.size X a1 a2 a3 := heap_new w _
    have z1 := World.size_alloc w (.cells #[.int .i64 X.users, a1, a2, a3] 26)
    have B1 : Below w.heap.size w (w.alloc (.cells #[.int .i64 X.users, a1, a2, a3] 26)) := (Below.refl _ w).alloc (Nat.le_refl _) _
    generalize w.alloc (.cells #[.int .i64 X.users, a1, a2, a3] 26) = w1 at *
    have n2 : PbB (w1.alloc (.cells #[.int .i64 X.users, b1, b2, b3] 26)) w1.heap.size X b1 b2 b3 := heap_new w1 _
    have B2 : Below w1.heap.size w1 (w1.alloc (.cells #[.int .i64 X.users, b1, b2, b3] 26)) := (Below.refl _ w1).alloc (Nat.le_refl _) _
    have B12 := B1.trans (B2.mono B1.size)
    rw [z1] at n2
    exact ⟨n1.below B2, n2, ha.below B12, hb.below B12, B12⟩
  have KRo : Hid (∀ V, Sm2 w X a1 a2 a3 b1 b2 b3 V → Calls Tryz.prog 26 #[a1, b1] V fun e w' => e = .returned (.bool true) ∧ Below V.heap.size V w') := fun V hV => keepRowsC X.who a1 b1 V hV.va.who hV.vb.who (by have := hk.w; omega)
  have KIn : Hid (∀ V, Sm2 w X a1 a2 a3 b1 b2 b3 V → Calls Tryz.prog 12 #[a2, b2] V fun e w' => e = .returned (.bool true) ∧ Below V.heap.size V w') := fun V hV => by
    have := K.keepInts X.fixed X.fixed a2 b2 V hV.va.fixed hV.vb.fixed (by have := hk.f; omega) (by have := hk.f; omega)
    rw [decide_eq_true rfl] at this
    exact this
  have KRu : Hid (∀ V, Sm2 w X a1 a2 a3 b1 b2 b3 V → Calls Tryz.prog 21 #[a3, b3] V fun e w' => e = .returned (.bool true) ∧ Below V.heap.size V w') := fun V hV => keepRules X.rules a3 b3 V hV.va.rules hV.vb.rules hk.r hk.s
  obtain ⟨o1, c1, o2, c2, o3, c3, rfl, rfl, rfl⟩ := ha.shape
  obtain ⟨o4, c4, o5, c5, o6, c6, rfl, rfl, rfl⟩ := hb.shape
  clear ha hb hk
  go_enter Tryz.func17, Tryz.ntmps17
  go_upto_region 1 with fail
  generalize (w.alloc (.cells #[.int .i64 X.users, .slice o1 X.who.length c1, .slice o2 X.fixed.length c2, .slice o3 X.rules.length c3] 26)).alloc (.cells #[.int .i64 X.users, .slice o4 X.who.length c4, .slice o5 X.fixed.length c5, .slice o6 X.rules.length c6] 26) = w2 at *
  have p0 := hS0.out.pa.c0
  have p1 := hS0.out.pa.c1
  have r0 := hS0.out.pb.c0
  have r1 := hS0.out.pb.c1
  go_wp2_with fail
  refine (KRo.out _ hS0.out).mono ?_
  rintro e w3 ⟨rfl, hb3⟩
  have hS3 := hide' (hS0.out.over hb3)
  clear hS0 hb3 p0 p1 r0 r1
  have p2 := hS3.out.pa.c2
  have r2 := hS3.out.pb.c2
  go_wp2_with fail
  refine (KIn.out _ hS3.out).mono ?_
  rintro e w4 ⟨rfl, hb4⟩
  have hS4 := hide' (hS3.out.over hb4)
  clear hS3 hb4 p2 r2
  have p3 := hS4.out.pa.c3
  have r3 := hS4.out.pb.c3
  go_wp2_with fail
  refine (KRu.out _ hS4.out).mono ?_
  rintro e w5 ⟨rfl, hb5⟩
  have hS5 := hide' (hS4.out.over hb5)
  go_wp2
  go_ret
  exact ⟨rfl, hS5.out.be⟩
end Go.Proofs.YtdlfjbhabflinaaGreatDoor.S

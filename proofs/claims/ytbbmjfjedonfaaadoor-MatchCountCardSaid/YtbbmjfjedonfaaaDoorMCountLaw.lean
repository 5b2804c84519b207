/- MatchCount answers true. -/
import Derived.Test.YtbbmjfjedonfaaaDoorMCount
import Derived.Test.YtbbmjfjedonfaaaDoorMRCount
import Derived.Test.YtbbmjfjedonfaaaDoorMWakes
namespace Go.Proofs.YtbbmjfjedonfaaaDoor.M
open Go.RowKit Go.Shelf
/-- few of the rows that are handed in. -/
def FewC (w : World) (M : List Nat) (V : World) (e : Ending) (w' : World) : Prop := ∃ oa cap, e = .returned (.slice oa M.length cap) ∧ Hid (RowU w' (.slice oa M.length cap) M) ∧ Hid (Below w.heap.size w w') ∧ Hid (Below V.heap.size V w')
set_option maxRecDepth 100000 in
set_option maxHeartbeats 4000000 in
theorem matchCount_walk (L : List Nat) (v : Value) (i : Int) (w : World) (hr : RowU w v L) (hw : ∀ z ∈ L, z < 18446744073709551616) (hi : (Lit.int .u64 i).wf = true) (ht : Tab w) :
    Calls Tryd.prog 3 #[v, .int .u64 i] w fun e w' => e = .returned (.bool true) ∧ Below w.heap.size w w' := by
  obtain ⟨m, rfl, hm⟩ : ∃ m : Nat, i = (m : Int) ∧ m < 18446744073709551616 := by
    have h1 : 0 ≤ i ∧ i ≤ 18446744073709551615 := by simpa [Lit.wf, IntKind.min, IntKind.max, IntKind.signed, IntKind.bits] using hi
    exact ⟨i.toNat, by omega, by omega⟩
  obtain ⟨M, hMe⟩ : ∃ M, M = L.take 20 := ⟨_, rfl⟩
  have hlen : M.length ≤ 20 := by rw [hMe, List.length_take]; omega
  have hmem : Hid (∀ z ∈ M, z < 18446744073709551616) := fun z hz => hw z (List.mem_of_mem_take (by rw [← hMe]; exact hz))
  have KF : Hid (∀ V, Below w.heap.size w V → Calls Tryd.prog 5 #[v] V (FewC w M V)) := fun V hV => by
    refine (fewU L v V (hr.below hV (Nat.le_refl _))).mono ?_
    rintro e w' ⟨v', rfl, ho, hb⟩
    rw [← hMe] at ho
    have hr := RowU.of_owns ho
    obtain ⟨oa, cap, rfl⟩ := hr.shape
    exact ⟨oa, cap, rfl, hr, hV.trans (hb.mono hV.size), hb⟩
  have hT : Hid (∀ V, Below w.heap.size w V → Tab V) := fun V hV => ht.over hV
  have hO : ∀ {V W : World}, Below w.heap.size w V → Below V.heap.size V W → Below w.heap.size w W := fun h k => h.trans (k.mono h.size)
  have KC : Hid (∀ (V : World) (oa : Option Addr) (cap : Nat), RowU V (.slice oa M.length cap) M → Tab V → Calls Tryd.prog 4 #[.slice oa M.length cap, .int .u64 (m : Int)] V fun e w' => e = .returned (.int .u64 (cntL M (min m 65536) : Int)) ∧ Below V.heap.size V w') := fun V oa cap h1 h2 => countF M oa cap m hm V (h1.rwa h2 hmem.out) hmem.out h2
  have KR : Hid (∀ (V : World) (oa : Option Addr) (cap : Nat), RowU V (.slice oa M.length cap) M → Tab V → Calls Tryd.prog 6 #[.slice oa M.length cap, .int .u64 ((min m 65536 : Nat) : Int)] V fun e w' => e = .returned (.int .u64 (cntL M (min m 65536) : Int)) ∧ Below V.heap.size V w') := fun V oa cap h1 h2 => rCountF M _ _ V h1 hmem.out h2 (by omega) (Nat.min_le_right _ _)
  generalize cntL M (min m 65536) = r at *
  clear hr hw ht hMe hi hm
  by_cases hb : 65536 < m
  · have hb' : (65536 : Int) < (m : Int) := by omega
    rw [show ((min m 65536 : Nat) : Int) = 65536 by omega] at KR
    go_enter Tryd.func3, Tryd.ntmps3
    go_wp2_with fail
    refine (KF.out w (Below.refl _ _)).mono ?_
    rintro e w1 ⟨oa1, cap1, rfl, hr1, hb1, _⟩
    go_wp2_with fail
    refine (KC.out w1 _ _ hr1.out (hT.out _ hb1.out)).mono ?_
    rintro e w2 ⟨rfl, hb2⟩
    have hB2 : Hid (Below w.heap.size w w2) := hO hb1.out hb2
    clear hb2 hb1 hr1
    go_wp2_with fail
    refine (KF.out w2 hB2.out).mono ?_
    rintro e w3 ⟨oa3, cap3, rfl, hr3, hb3, _⟩
    go_wp2_with fail
    refine (KR.out w3 _ _ hr3.out (hT.out _ hb3.out)).mono ?_
    rintro e w4 ⟨rfl, hb4⟩
    have hB4 : Hid (Below w.heap.size w w4) := hO hb3.out hb4
    clear hb4 hb3 hr3 hB2
    go_wp2_with fail
    refine (wakesM w4 (hT.out _ hB4.out)).mono ?_
    rintro e w5 ⟨rfl, hb5⟩
    have hend : Hid (Below w.heap.size w w5) := hO hB4.out hb5
    clear hb5 hB4
    go_wp2
    go_ret
    exact ⟨rfl, hend.out⟩
  · have hb' : ¬ (65536 : Int) < (m : Int) := by omega
    rw [show ((min m 65536 : Nat) : Int) = (m : Int) by omega] at KR
    go_enter Tryd.func3, Tryd.ntmps3
    go_wp2_with fail
    refine (KF.out w (Below.refl _ _)).mono ?_
    rintro e w1 ⟨oa1, cap1, rfl, hr1, hb1, _⟩
    go_wp2_with fail
    refine (KC.out w1 _ _ hr1.out (hT.out _ hb1.out)).mono ?_
    rintro e w2 ⟨rfl, hb2⟩
    have hB2 : Hid (Below w.heap.size w w2) := hO hb1.out hb2
    clear hb2 hb1 hr1
    go_wp2_with fail
    refine (KF.out w2 hB2.out).mono ?_
    rintro e w3 ⟨oa3, cap3, rfl, hr3, hb3, _⟩
    go_wp2_with fail
    refine (KR.out w3 _ _ hr3.out (hT.out _ hb3.out)).mono ?_
    rintro e w4 ⟨rfl, hb4⟩
    have hB4 : Hid (Below w.heap.size w w4) := hO hb3.out hb4
    clear hb4 hb3 hr3 hB2
    go_wp2_with fail
    refine (wakesM w4 (hT.out _ hB4.out)).mono ?_
    rintro e w5 ⟨rfl, hb5⟩
    have hend : Hid (Below w.heap.size w w5) := hO hB4.out hb5
    clear hb5 hB4
    go_wp2
    go_ret
    exact ⟨rfl, hend.out⟩
end Go.Proofs.YtbbmjfjedonfaaaDoor.M

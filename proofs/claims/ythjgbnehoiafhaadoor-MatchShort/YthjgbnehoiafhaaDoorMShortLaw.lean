/- MatchShort answers true. -/
import Derived.Test.YthjgbnehoiafhaaDoorMRShort
import Derived.Test.YthjgbnehoiafhaaDoorMWakes
namespace Go.Proofs.YthjgbnehoiafhaaDoor.M
open Go.RowKit Go.Shelf
/-- few of the rows that are handed in. -/
def FewQ (w : World) (M : List Nat) (V : World) (e : Ending) (w' : World) : Prop := ∃ oa cap, e = .returned (.slice oa M.length cap) ∧ Hid (RowU w' (.slice oa M.length cap) M) ∧ Hid (Below w.heap.size w w') ∧ Hid (Below V.heap.size V w')
set_option maxRecDepth 100000 in
set_option maxHeartbeats 4000000 in
theorem matchShort_walk (L : List Nat) (v : Value) (w : World) (hr : RowU w v L) (hw : ∀ z ∈ L, z < 18446744073709551616) (ht : Tab w) :
    Calls Tryd.prog 4 #[v] w fun e w' => e = .returned (.bool true) ∧ Below w.heap.size w w' := by
  obtain ⟨M, hMe⟩ : ∃ M, M = L.take 20 := ⟨_, rfl⟩
  have hmem : Hid (∀ z ∈ M, z < 18446744073709551616) := fun z hz => hw z (List.mem_of_mem_take (by rw [← hMe]; exact hz))
  have KF : Hid (∀ V, Below w.heap.size w V → Calls Tryd.prog 10 #[v] V (FewQ w M V)) := fun V hV => by
    refine (fewU L v V (hr.below hV (Nat.le_refl _))).mono ?_
    rintro e w' ⟨v', rfl, ho, hb⟩
    rw [← hMe] at ho
    have hr := RowU.of_owns ho
    obtain ⟨oa, cap, rfl⟩ := hr.shape
    exact ⟨oa, cap, rfl, hr, hV.trans (hb.mono hV.size), hb⟩
  have hT : Hid (∀ V, Below w.heap.size w V → Tab V) := fun V hV => ht.over hV
  have hO : ∀ {V W : World}, Below w.heap.size w V → Below V.heap.size V W → Below w.heap.size w W := fun h k => h.trans (k.mono h.size)
  clear hr hw ht hMe
  go_enter Tryd.func4, Tryd.ntmps4
  go_wp2_with fail
  refine (KF.out w (Below.refl _ _)).mono ?_
  rintro e w1 ⟨oa1, cap1, rfl, hr1, hb1, _⟩
  go_wp2_with fail
  refine (shortF (hr1.out.rwa (hT.out _ hb1.out) hmem.out)).mono ?_
  rintro e w2 ⟨lv, rfl, hS, hb2'⟩
  have hb2 : Hid (Below w.heap.size w w2) := hO hb1.out hb2'.out
  clear hr1 hb1 hb2'
  go_wp2_with fail
  refine (KF.out w2 hb2.out).mono ?_
  rintro e w3 ⟨oa3, cap3, rfl, hr3, hb3, hb3'⟩
  go_wp2_with fail
  refine (rShortF (hr3.out.rwa (hT.out _ hb3.out) hmem.out)).mono ?_
  rintro e w4 ⟨mv, rfl, hD, hb4'⟩
  have hb4 : Hid (Below w.heap.size w w4) := hO hb3.out hb4'.out
  have hli : Hid (∃ l, l.length ≤ 1000 ∧ I.RowI w4 lv l ∧ I.RowI w4 mv l) := two_short (fn_lt hmem.out) hS.out hD.out (hb3'.out.trans (hb4'.out.mono hb3'.out.size))
  obtain ⟨ll, hll, hl1, hl2⟩ := hli.out
  have KI : Hid (Calls Tryd.prog 12 #[lv, mv] w4 fun e w' => e = .returned (.bool true) ∧ Below w4.heap.size w4 w') := (I.keepInts ll ll lv mv w4 hl1 hl2 (by omega) (by omega)).mono fun _ _ ⟨h1, h2⟩ => ⟨by rw [h1, decide_eq_true rfl], h2⟩
  clear hr3 hb3 hb3' hli hl1 hl2 hb4' hb2 hS hD
  go_wp2_with fail
  refine KI.out.mono ?_
  rintro e w5 ⟨rfl, hb5⟩
  have hB5 : Hid (Below w.heap.size w w5) := hO hb4.out hb5
  clear KI hb5 hb4
  go_wp2_with fail
  refine (wakesM w5 (hT.out _ hB5.out)).mono ?_
  rintro e w14 ⟨rfl, hb14⟩
  have hend : Hid (Below w.heap.size w w14) := hO hB5.out hb14
  clear hb14 hB5
  go_wp2
  go_ret
  exact ⟨rfl, hend.out⟩
end Go.Proofs.YthjgbnehoiafhaaDoor.M

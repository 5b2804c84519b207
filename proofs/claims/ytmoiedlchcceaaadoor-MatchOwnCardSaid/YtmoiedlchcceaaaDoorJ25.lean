/- MatchOwn answers true. -/
import Derived.Test.YtmoiedlchcceaaaDoorJ19
import Derived.Test.YtmoiedlchcceaaaDoorJ22
import Derived.Test.YtmoiedlchcceaaaDoorJ24
namespace Go.Proofs.YtmoiedlchcceaaaDoor.M
open Go.RowKit Go.Shelf
theorem leastO {n : Nat} {R : Nat → Nat} {w : World} {oa : Option Addr} {cap : Nat} (hA : RwA w (.slice oa n cap) n R) (hn : n ≤ 20) :
    Calls Tryd.prog 4 #[.slice oa n cap] w fun e w' => ∃ lv ok l, e = .returned (.tuple #[lv, .bool ok]) ∧ Hid (w'.ownsRow w.heap.size 3 1 lv l.length (K.cellsI l)) ∧ l.length ≤ 1000 ∧ Hid (Below w.heap.size w w') := by
  refine (leastF hA).mono ?_
  rintro e w' ⟨hb, ⟨_, pl, v, rfl, _, ho⟩ | ⟨rfl, _⟩⟩
  · exact ⟨v, true, plL pl n, rfl, by rw [plL_len]; exact ho, by rw [plL_len]; omega, hb⟩
  · exact ⟨_, false, [], rfl, World.ownsRow_nil _ _ _ _, by simp, hb⟩
theorem shortO {n : Nat} {R : Nat → Nat} {w : World} {oa : Option Addr} {cap : Nat} (hA : RwA w (.slice oa n cap) n R) :
    Calls Tryd.prog 8 #[.slice oa n cap] w fun e w' => ∃ lv l, e = .returned lv ∧ Hid (w'.ownsRow w.heap.size 3 1 lv l.length (K.cellsI l)) ∧ l.length ≤ 1000 ∧ Hid (Below w.heap.size w w') := by
  refine (shortF hA).mono ?_
  rintro e w' ⟨v, rfl, hS, hb⟩
  have hS := hS.out
  cases hS with
  | no => exact ⟨_, [], rfl, World.ownsRow_nil _ _ _ _, by simp, hb⟩
  | yes hn hi k g cap t h1 hk hm hbd hl hf ho =>
    have hlen : (lst t).length = (nums t).length := by have := ho.1; simp [I.cellsI] at this; omega
    refine ⟨_, lst t, rfl, by rw [hlen]; exact ho, ?_, hb⟩
    rw [hlen, len_nums]
    have := cnt_le 64 t
    omega
set_option maxRecDepth 100000 in
set_option maxHeartbeats 8000000 in
theorem matchOwn_walk (L : List Nat) (v : Value) (w : World) (hr : RowU w v L) (hw : ∀ z ∈ L, z < 18446744073709551616) (ht : Tab w) :
    Calls Tryd.prog 3 #[v] w fun e w' => e = .returned (.bool true) ∧ Below w.heap.size w w' := by
  obtain ⟨Q, hQe⟩ : ∃ Q, Q = L.take 20 := ⟨_, rfl⟩
  have hlen : Q.length ≤ 20 := by rw [hQe, List.length_take]; omega
  have hmem : Hid (∀ z ∈ Q, z < 18446744073709551616) := fun z hz => hw z (List.mem_of_mem_take (by rw [← hQe]; exact hz))
  have KF : Hid (∀ V, Below w.heap.size w V → Calls Tryd.prog 6 #[v] V fun e w' => ∃ lv, e = .returned lv ∧ Hid (KU.RowI w' lv (natI Q)) ∧ Hid (Below V.heap.size V w')) := fun V hV => by
    refine (fewU L v V (hr.below hV (Nat.le_refl _))).mono ?_
    rintro e w' ⟨v', rfl, ho, hb⟩
    rw [← hQe] at ho
    exact ⟨v', rfl, rowI_of_U ho, hb⟩
  have KR : Hid (∀ (V V' : World) (j : Nat) (lv : Value), Zm w V w.heap.size j → Below V.heap.size V V' → KU.RowI V' lv (natI Q) → j ≤ 1000 → Calls Tryd.prog 5 #[.pointer (some ⟨w.heap.size + 1, 0, none⟩), lv] V' fun e w' => ∃ g cap, e = .returned (.slice (some ⟨g, 0, none⟩) Q.length cap) ∧ Hid (Zm w w' w.heap.size (j + 1)) ∧ Hid (RwA w' (.slice (some ⟨g, 0, none⟩) Q.length cap) Q.length (fn Q))) := fun V V' j lv hZ hb hR hj => by
    refine (zmLoan (hZ.below hb) (by omega) lv (natI Q) hR (by rw [natI_len]; omega)).mono ?_
    rintro e w' ⟨g, cap, rfl, hZ', hR'⟩
    rw [natI_len] at hR' ⊢
    exact ⟨g, cap, rfl, hZ', rwa_of_I hR'.out (ht.below ht.2 hZ'.out.old) hmem.out⟩
  have KB : Hid (∀ (V V' : World) (j : Nat) (lv : Value) (l : List Int), Zm w V w.heap.size j → Below V.heap.size V V' → V'.ownsRow V.heap.size 3 1 lv l.length (K.cellsI l) → l.length ≤ 1000 → Calls Tryd.prog 7 #[.pointer (some ⟨w.heap.size, 0, none⟩), lv] V' fun e w' => e = .returned (.tuple #[]) ∧ Hid (Zm w w' w.heap.size j)) := fun V V' j lv l hZ hb ho hl => zmBook hZ hb lv l.length l ho (by omega)
  have hT : Hid (∀ V, Below w.heap.size w V → Tab V) := fun V hV => ht.over hV
  have hZ0 := hide' (Zm.start w)
  have KL : Hid (∀ (V : World) (g cap : Nat), RwA V (.slice (some ⟨g, 0, none⟩) Q.length cap) Q.length (fn Q) → Calls Tryd.prog 4 #[.slice (some ⟨g, 0, none⟩) Q.length cap] V fun e w' => ∃ lv ok l, e = .returned (.tuple #[lv, .bool ok]) ∧ Hid (w'.ownsRow V.heap.size 3 1 lv l.length (K.cellsI l)) ∧ l.length ≤ 1000 ∧ Hid (Below V.heap.size V w')) := fun V g cap h => leastO h hlen
  have KC : Hid (∀ (V : World) (g cap : Nat), RwA V (.slice (some ⟨g, 0, none⟩) Q.length cap) Q.length (fn Q) → Calls Tryd.prog 11 #[.slice (some ⟨g, 0, none⟩) Q.length cap, .int .u64 100] V fun e w' => e = .returned (.int .u64 (cntL Q 100 : Int)) ∧ Below V.heap.size V w') := fun V g cap h => countF Q _ cap 100 (by decide) V h hmem.out h.tab
  clear hr hw ht hQe
  go_enter Tryd.func3, Tryd.ntmps3
  go_wp2
  go_loopw [5, 6, 7] (fun p _ _ wr => ∃ k : Nat, k ≤ 3 ∧ p = .int .i64 (k : Int) ∧ Hid (Zm w wr w.heap.size (5 * k))) (fun p _ _ _ => (3 - intOf p).toNat)
  case atStart => exact ⟨0, by omega, rfl, hZ0⟩
  case round =>
    clear hZ0
    obtain ⟨k, hk, rfl, hZ⟩ := hrel
    by_cases hlt : k < 3
    · have hlt' : (k : Int) < 3 := by omega
      go_wp2_with fail
      refine (KF.out wr hZ.out.old).mono ?_
      rintro e w1 ⟨lv1, rfl, hR1, hb1⟩
      go_wp2_with fail
      refine (KR.out wr w1 (5 * k) lv1 hZ.out hb1.out hR1.out (by omega)).mono ?_
      rintro e w2 ⟨g2, cap2, rfl, hZ2, hA2⟩
      clear hR1 hb1
      go_wp2_with fail
      refine (KL.out w2 g2 cap2 hA2.out).mono ?_
      rintro e w3 ⟨lv3, ok3, l3, rfl, ho3, hl3, hb3⟩
      go_wp2_with fail
      refine (KB.out w2 w3 (5 * k + 1) lv3 l3 hZ2.out hb3.out ho3.out hl3).mono ?_
      rintro e w4 ⟨rfl, hZ4⟩
      clear hZ2 hA2 ho3 hb3
      go_wp2_with fail
      refine (KF.out w4 hZ4.out.old).mono ?_
      rintro e w5 ⟨lv5, rfl, hR5, hb5⟩
      go_wp2_with fail
      refine (KR.out w4 w5 (5 * k + 1) lv5 hZ4.out hb5.out hR5.out (by omega)).mono ?_
      rintro e w6 ⟨g6, cap6, rfl, hZ6, hA6⟩
      clear hR5 hb5
      go_wp2_with fail
      refine (shortO hA6.out).mono ?_
      rintro e w7 ⟨lv7, l7, rfl, ho7, hl7, hb7⟩
      go_wp2_with fail
      refine (KB.out w6 w7 (5 * k + 1 + 1) lv7 l7 hZ6.out hb7.out ho7.out hl7).mono ?_
      rintro e w8 ⟨rfl, hZ8⟩
      clear hZ6 hA6 ho7 hb7 hZ4
      go_wp2_with fail
      refine (KF.out w8 hZ8.out.old).mono ?_
      rintro e w9 ⟨lv9, rfl, hR9, hb9⟩
      go_wp2_with fail
      refine (KR.out w8 w9 (5 * k + 1 + 1) lv9 hZ8.out hb9.out hR9.out (by omega)).mono ?_
      rintro e w10 ⟨g10, cap10, rfl, hZ10, hA10⟩
      clear hR9 hb9
      go_wp2_with fail
      refine (sizeF hA10.out).mono ?_
      rintro e w11 ⟨rfl, hb11⟩
      have hZ11 : Hid (Zm w w11 w.heap.size (5 * k + 1 + 1 + 1)) := hZ10.out.below hb11
      clear hZ10 hA10 hb11 hZ8
      generalize sizeN (fn Q) Q.length = zz at *
      go_wp2_with fail
      refine (KF.out w11 hZ11.out.old).mono ?_
      rintro e w12 ⟨lv12, rfl, hR12, hb12⟩
      go_wp2_with fail
      refine (KR.out w11 w12 (5 * k + 1 + 1 + 1) lv12 hZ11.out hb12.out hR12.out (by omega)).mono ?_
      rintro e w13 ⟨g13, cap13, rfl, hZ13, hA13⟩
      clear hR12 hb12
      go_wp2_with fail
      refine (freeF hA13.out (k : Int)).mono ?_
      rintro e w14 ⟨F, rfl, hF, hb14⟩
      have hZ14 : Hid (Zm w w14 w.heap.size (5 * k + 1 + 1 + 1 + 1)) := hZ13.out.below hb14
      clear hZ13 hA13 hb14 hF hZ11
      go_wp2_with fail
      refine (KF.out w14 hZ14.out.old).mono ?_
      rintro e w15 ⟨lv15, rfl, hR15, hb15⟩
      go_wp2_with fail
      refine (KR.out w14 w15 (5 * k + 1 + 1 + 1 + 1) lv15 hZ14.out hb15.out hR15.out (by omega)).mono ?_
      rintro e w16 ⟨g16, cap16, rfl, hZ16, hA16⟩
      clear hR15 hb15
      go_wp2_with fail
      refine (KC.out w16 g16 cap16 hA16.out).mono ?_
      rintro e w17 ⟨rfl, hb17⟩
      have hZ17 : Hid (Zm w w17 w.heap.size (5 * (k + 1))) := hZ16.out.below hb17
      clear hZ16 hA16 hb17 hZ14
      generalize cntL Q 100 = cc at *
      go_wp2
      exact ⟨⟨k + 1, by omega, by go_num, hZ17⟩, by simp [intOf]; omega⟩
    · obtain rfl : k = 3 := by omega
      go_wp2_with fail
      refine (zmBack hZ.out (by omega)).mono ?_
      rintro e w1 ⟨rfl, hO1⟩
      go_wp2_with fail
      refine (K.ownClose hO1.out).mono ?_
      rintro e w2 ⟨rfl, hb2⟩
      have hB2 := hide' hb2
      clear hb2 hO1
      go_wp2_with fail
      refine (wakesM w2 (hT.out _ hB2.out)).mono ?_
      rintro e w3 ⟨rfl, hb3⟩
      have hend : Hid (Below w.heap.size w w3) := hB2.out.trans (hb3.mono hB2.out.size)
      clear hb3 hB2
      go_wp2
      go_ret
      exact ⟨rfl, hend.out⟩
end Go.Proofs.YtmoiedlchcceaaaDoor.M
